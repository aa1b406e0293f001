import Derived.Test.YtkhipgcgcbhjoaaGreatDn1
import Derived.Below
import Derived.OwnWalk
import Derived.Lib.OthersKept
import Derived.Maps.AppendAt
import Derived.Deep.AppendLies
import Derived.Deep.LoopGhost
import Derived.Maps.OwnSet
import Derived.Deep.OwnRows
import Derived.DeepKeys4
import Derived.Laws.OwnMore
import Derived.Laws.Pointers
import Derived.Laws.StructEq
import Derived.BigQuiet
import Derived.Deep.QuietTactic
import Derived.Deep.RegionHeld3
import Derived.ChangeKeysEq
import Derived.Lib.DecodeN
import Derived.Maps.OwnOps
set_option maxRecDepth 1000000
set_option maxHeartbeats 4000000
namespace Go.Proofs.YtkhipgcgcbhjoaaGreat.Pr
open Go.RowKit Go.Lib
theorem hid {p : Prop} (h : p) : Hid p:=h
theorem below_of_grown {w w' : World} {row : Option Nat} (hg : w.grownBy w' row) (B : Nat) (hB : B <= w.heap.size) (hr : ∀ k,row = some k -> B <= k) : Below B w w' :=
 ⟨hg.os,hg.tape,hg.output,hg.size,fun k hk=>hg.block k (by omega) (fun e=>by have:=hr k e.symm; omega)⟩
theorem own_slice {w : World} {B n size : Nat} {e : TypeId} {v : Value} {xs : List Value} (h : w.ownsRow B e size v n xs) : ∃ ao cap,v = .slice ao n cap:=by
 rcases h.2 with ⟨h1,h2⟩ | ⟨g,cap,cur,h1,_⟩
 ·exact ⟨none,0,by rw [h1,h2]⟩
 ·exact ⟨_,cap,h1⟩
theorem own_base {w : World} {B B' n size : Nat} {e : TypeId} {v : Value} {xs : List Value} (h : w.ownsRow B e size v n xs) (hB : B' <= B) : w.ownsRow B' e size v n xs :=
 ⟨h.1,h.2.imp id fun ⟨g,cap,cur,h1,h2,h3⟩=>⟨g,cap,cur,h1,Nat.le_trans hB h2,h3⟩⟩
theorem own_same {w w' : World} {B n size : Nat} {e : TypeId} {v : Value} {xs : List Value} (h : w.ownsRow B e size v n xs) (hb : ∀ k,B <= k -> w'.heap[k]? = w.heap[k]?) : w'.ownsRow B e size v n xs :=
 ⟨h.1,h.2.imp id fun ⟨g,cap,cur,h1,h2,h3,h4⟩=>⟨g,cap,cur,h1,h2,(hb g h2).trans h3,h4⟩⟩
abbrev R3:=Int × Int × Int
def c3 (x : R3) : List Value:=[.int .i32 x.1,.int .i32 x.2.1,.int .i32 x.2.2]
def Dec (s : ByteArray) : Nat -> List Int -> Prop
 | pos,[]=>¬ pos < s.size
 | pos,c :: l=>pos < s.size ∧ ((Utf8.decode s pos).1 : Int) = c ∧ Dec s (pos + (Utf8.decode s pos).2) l
theorem Tryz.info_r3 : (Tryz.prog.info? 76).map (fun i=>(i.zero,i.size,i.bytes)) = some (some (.agg #[.int .i32 0,.int .i32 0,.int .i32 0]),3,12):=by kernel_rfl
theorem wpList_r3 {ops : Array Oper} {rest : List Oper} {o : Oper} {a : Act} {Q : Exit -> Act -> World -> Prop} (hgd : o.guard = none) (s x : Operand)
 (ho : o.op = .call { callee:=.builtin .append,args:=#[s,x],argTypes:=#[74,74] }) (W : World) (B n : Nat) (v : Value) (xs : List Value) (r : R3) (hs : a.eval s = v) (N : Nat) (hN : W.heap.size = N) (hx : a.eval x = .slice (some ⟨N,0,none⟩) 1 1)
 (hown : W.ownsRow B 76 3 v n xs) (hn : n <= 5000) (hB : B <= W.heap.size)
 (h : ∀ v' w',w'.ownsRow B 76 3 v' (n + 1) (xs ++ c3 r) -> Below B W w' -> wpList Tryz.prog ops Q rest (a.put o.dst v') w') :
 wpList Tryz.prog ops Q (o :: rest) a (W.alloc (.cells (c3 r).toArray 76)):=by
 subst hN;obtain ⟨i0,hi,hz0,hz1,hz2⟩:=info_parts Tryz.info_r3
 refine wpList_append_own_at _ hgd s x 74 ho B 76 i0 (.agg #[.int .i32 0,.int .i32 0,.int .i32 0]) 3 12 Tryz.underlying74 hi hz0 hz1 hz2 rfl (by decide) v n xs hs (hown.alloc _) ⟨W.heap.size,0,none⟩ 1 1 (c3 r) hx rfl
  (World.news_of_block (heap_alloc_new W _)) (fun u hu=>by simp [c3] at hu; rcases hu with rfl | rfl | rfl <;> rfl) (by unfold maxLen; omega) (by omega) (by simp; omega) (fun v' w' h1 h2 _ _=>h v' w' h1 ?_)
 exact ((Below.refl _ _).alloc hB _).trans (below_of_grown h2 B (by simp; omega) (fun k e=>(hown.lt k e).1))
structure RwW (w : World) (s : ByteArray) (T : List R3) (k pos : Nat) (rest : List Int) (c0 c1 c2 : Int) (ov : Value) (wr : World) : Prop where
 dec : Dec s pos rest
 row : wr.heap[w.heap.size]? = some (.cells #[.int .i32 c0,.int .i32 c1,.int .i32 c2] 76)
 it : wr.heap[w.heap.size + 1]? = some (.stringIter s pos)
 own : wr.ownsRow (w.heap.size + 2) 76 3 ov k ((T.take k).flatMap c3)
 bel : Below w.heap.size w wr
 size : w.heap.size + 2 <= wr.heap.size
 le : k <= T.length
theorem cells3 {W : World} {b : Nat} {x y z : Value} {t : TypeId} (h : W.heap[b]? = some (.cells #[x,y,z] t)) : W.cell? ⟨b,0,none⟩ = some x ∧ W.cell? ⟨b,1,none⟩ = some y ∧ W.cell? ⟨b,2,none⟩ = some z ∧ ∀ o,W.frozen? ⟨b,o,none⟩ = false:=by simp [World.cell?,World.frozen?,h]
theorem RwW.put {w : World} {s : ByteArray} {T : List R3} {k pos : Nat} {c : Int} {rest : List Int} {c0 c1 c2 : Int} {ov : Value} {wr : World} (h : RwW w s T k pos (c :: rest) c0 c1 c2 ov wr) (j : Nat) (d0 d1 d2 : Int)
 (hd : (#[Value.int .i32 c0,.int .i32 c1,.int .i32 c2] : Array Value).setIfInBounds j (.int .i32 c) = #[.int .i32 d0,.int .i32 d1,.int .i32 d2]) :
 RwW w s T k (pos + (Utf8.decode s pos).2) rest d0 d1 d2 ov ((wr.iterAt (w.heap.size + 1) s (pos + (Utf8.decode s pos).2)).setCell ⟨w.heap.size,j,none⟩ (.int .i32 c)):=by
 have hrow : (wr.iterAt (w.heap.size + 1) s (pos + (Utf8.decode s pos).2)).heap[w.heap.size]? = some (.cells #[.int .i32 c0,.int .i32 c1,.int .i32 c2] 76):=by rw [iterAt_other _ _ _ _ _ (by omega)]; exact h.row
 refine ⟨h.dec.2.2,?_,?_,?_,?_,?_,h.le⟩
 ·rw [heap_setCell_same _ _ _ _ _ _ hrow,hd]
 ·rw [heap_setCell_other _ _ _ _ (by simp)];exact iterAt_heap _ _ _ _ _ h.it
 ·refine own_same h.own (fun g hg=>?_)
  rw [heap_setCell_other _ _ _ _ (by simp; omega),iterAt_other _ _ _ _ _ (by omega)]
 ·exact (below_iterAt h.bel (by omega) s _).setCell (Nat.le_refl _) _
 ·rw [World.size_setCell,iterAt_size]; exact h.size
theorem RwW.next {w : World} {s : ByteArray} {T : List R3} {k pos : Nat} {rest : List Int} {c0 c1 c2 : Int} {ov : Value} {wr : World} (h : RwW w s T k pos rest c0 c1 c2 ov wr) (hk : T[k]? = some (c0,c1,c2)) {v' : Value} {w' : World}
 (ho : w'.ownsRow (w.heap.size + 2) 76 3 v' (k + 1) ((T.take k).flatMap c3 ++ c3 (c0,c1,c2))) (hb : Below (w.heap.size + 2) wr w') : RwW w s T (k + 1) pos rest c0 c1 c2 v' w':=by
 obtain ⟨hlt,hx⟩:=List.getElem?_eq_some_iff.1 hk
 have e : T.take (k + 1) = T.take k ++ [(c0,c1,c2)]:=by rw [List.take_succ_eq_append_getElem hlt,hx]
 refine ⟨h.dec,(hb.block _ (by omega)).trans h.row,(hb.block _ (by omega)).trans h.it,?_,h.bel.trans (hb.mono (by omega)),Nat.le_trans h.size hb.size,hlt⟩
 rw [e,List.flatMap_append];simpa using ho
def flat3 (T : List R3) : List Int:=T.flatMap fun x=>[x.1,x.2.1,x.2.2]
def flat2 (T : List R3) : List Int:=T.flatMap fun x=>[x.1,x.2.1]
def Far3 (T : List R3) (k j : Nat) (rest : List Int) (c0 c1 : Int) : Prop :=
 (j = 0 ∧ rest = flat3 (T.drop k)) ∨ (∃ x,T[k]? = some x ∧ c0 = x.1 ∧ ((j = 1 ∧ rest = x.2.1 :: x.2.2 :: flat3 (T.drop (k + 1))) ∨ (j = 2 ∧ c1 = x.2.1 ∧ rest = x.2.2 :: flat3 (T.drop (k + 1)))))
def Far2 (T : List R3) (k j : Nat) (rest : List Int) (c0 : Int) : Prop :=
 (j = 0 ∧ rest = flat2 (T.drop k)) ∨ (∃ x,T[k]? = some x ∧ c0 = x.1 ∧ j = 1 ∧ rest = x.2.1 :: flat2 (T.drop (k + 1)))
def Step3 (T : List R3) (k j : Nat) (rest : List Int) (c0 c1 : Int) : Prop :=
 (rest = [] ∧ k = T.length) ∨ ∃ x c l,T[k]? = some x ∧ rest = c :: l ∧ ((j = 0 ∧ c = x.1 ∧ Far3 T k 1 l x.1 c1) ∨ (j = 1 ∧ c0 = x.1 ∧ c = x.2.1 ∧ Far3 T k 2 l x.1 x.2.1) ∨ (j = 2 ∧ c0 = x.1 ∧ c1 = x.2.1 ∧ c = x.2.2 ∧ ∀ a b,Far3 T (k + 1) 0 l a b))
theorem far3 {T : List R3} {k j : Nat} {rest : List Int} {c0 c1 : Int} (hk : k <= T.length) (h : Far3 T k j rest c0 c1) : Step3 T k j rest c0 c1:=by
 rcases h with ⟨rfl,rfl⟩ | ⟨x,hx,rfl,⟨rfl,rfl⟩ | ⟨rfl,rfl,rfl⟩⟩
 ·by_cases hlt : k < T.length
  ·right
   rw [List.drop_eq_getElem_cons hlt];exact ⟨T[k],T[k].1,_,List.getElem?_eq_getElem hlt,rfl,.inl ⟨rfl,rfl,.inr ⟨T[k],List.getElem?_eq_getElem hlt,rfl,.inl ⟨rfl,rfl⟩⟩⟩⟩
  ·left
   rw [List.drop_of_length_le (by omega)];exact ⟨rfl,by omega⟩
 ·exact .inr ⟨x,_,_,hx,rfl,.inr (.inl ⟨rfl,rfl,rfl,.inr ⟨x,hx,rfl,.inr ⟨rfl,rfl,rfl⟩⟩⟩)⟩
 ·exact .inr ⟨x,_,_,hx,rfl,.inr (.inr ⟨rfl,rfl,rfl,rfl,fun _ _=>.inl ⟨rfl,rfl⟩⟩)⟩
def Step2 (T : List R3) (k j : Nat) (rest : List Int) (c0 : Int) : Prop :=
 (rest = [] ∧ k = T.length) ∨ ∃ x c l,T[k]? = some x ∧ rest = c :: l ∧ ((j = 0 ∧ c = x.1 ∧ Far2 T k 1 l x.1) ∨ (j = 1 ∧ c0 = x.1 ∧ c = x.2.1 ∧ ∀ a,Far2 T (k + 1) 0 l a))
theorem far2 {T : List R3} {k j : Nat} {rest : List Int} {c0 : Int} (hk : k <= T.length) (h : Far2 T k j rest c0) : Step2 T k j rest c0:=by
 rcases h with ⟨rfl,rfl⟩ | ⟨x,hx,rfl,rfl,rfl⟩
 ·by_cases hlt : k < T.length
  ·right
   rw [List.drop_eq_getElem_cons hlt];exact ⟨T[k],T[k].1,_,List.getElem?_eq_getElem hlt,rfl,.inl ⟨rfl,rfl,.inr ⟨T[k],List.getElem?_eq_getElem hlt,rfl,rfl,rfl⟩⟩⟩
  ·left
   rw [List.drop_of_length_le (by omega)];exact ⟨rfl,by omega⟩
 ·exact .inr ⟨x,_,_,hx,rfl,.inr ⟨rfl,rfl,rfl,fun _=>.inl ⟨rfl,rfl⟩⟩⟩
theorem rows3_any (s : ByteArray) (T : List R3) (w : World) (h : Dec s 0 (flat3 T)) (hl : T.length <= 1000) :
 Calls Tryz.prog 41 #[.string s,.int .i64 3] w fun e w'=>∃ v,e = .returned v ∧ w'.ownsRow w.heap.size 76 3 v T.length (T.flatMap c3) ∧ Below w.heap.size w w':=by
 have HD:=hid h
 clear h;go_enter Tryz.func41,Tryz.ntmps41
 go_wp2_with fail;go_loopg [7,5] (flat3 T).length (fun g av ov wr=>∃ (k j pos : Nat) (rest : List Int) (c0 c1 c2 : Int),g = rest.length ∧ av = .int .i64 j ∧ Hid (RwW w s T k pos rest c0 c1 c2 ov wr) ∧ Hid (Far3 T k j rest c0 c1))
 case atStart =>
  refine ⟨0,0,0,flat3 T,0,0,0,rfl,rfl,⟨HD.out,?_,?_,World.ownsRow_nil _ _ _ _,?_,?_,Nat.zero_le _⟩,.inl ⟨rfl,rfl⟩⟩
  ·exact (Below.heap_alloc _ _ _ (by simp)).trans (heap_alloc_new _ _)
  ·have:=heap_alloc_new (w.alloc (.cells #[.int .i32 0,.int .i32 0,.int .i32 0] 76)) (.stringIter s 0)
   rw [World.size_alloc] at this; exact this
  ·exact ((Below.refl _ _).alloc (Nat.le_refl _) _).alloc (by simp) _
  ·show _ <= ((w.alloc _).alloc _).heap.size
   simp
 case round =>
  obtain ⟨k,j,pos,rest,c0,c1,c2,hg,rfl,H,HF⟩:=hrel
  have HG:=hid hg
  clear hg;obtain ⟨ao2,cap2,rfl⟩:=own_slice H.out.own
  have hkl:=H.out.le
  rcases far3 H.out.le HF.out with ⟨rfl,rfl⟩ | ⟨x,c,l,hx,rfl,hst⟩
  ·have hnx : ∀ ty,(Instr.next (.pointer (some ⟨w.heap.size + 1,0,none⟩)) true ty).run Tryz.prog wr = _:=fun ty=>run_next_end_at wr (w.heap.size + 1) s pos ty H.out.it H.out.dec
   have HO : Hid (wr.ownsRow w.heap.size 76 3 (.slice ao2 T.length cap2) T.length (T.flatMap c3)):=by
    have:=own_base H.out.own (show w.heap.size <= w.heap.size + 2 by omega)
    rw [List.take_length] at this; exact this
   have HB:=hid H.out.bel
   clear H HF;go_wp2_with fail;go_ret;exact ⟨_,rfl,HO.out,HB.out⟩
  ·have hnx : ∀ ty,(Instr.next (.pointer (some ⟨w.heap.size + 1,0,none⟩)) true ty).run Tryz.prog wr = .ok (.tuple #[.bool true,.int .i64 pos,.int .i32 c]) (wr.iterAt (w.heap.size + 1) s (pos + (Utf8.decode s pos).2)):=fun ty=>by
    rw [run_next_any_at wr (w.heap.size + 1) s pos ty H.out.it H.out.dec.1,H.out.dec.2.1]
   have hrow : (wr.iterAt (w.heap.size + 1) s (pos + (Utf8.decode s pos).2)).heap[w.heap.size]? = some (.cells #[.int .i32 c0,.int .i32 c1,.int .i32 c2] 76):=by rw [iterAt_other _ _ _ _ _ (by omega)]; exact H.out.row
   obtain ⟨q0,q1,q2,qf⟩:=cells3 hrow
   have HP:=hid (fun j d0 d1 d2 hd=>H.out.put j d0 d1 d2 hd)
   have hk1 : (k : Int) < 1000:=by have:=(List.getElem?_eq_some_iff.1 hx).1; omega
   have hsz : Hid (w.heap.size + 2 <= wr.heap.size):=H.out.size
   clear hrow H HF;generalize hW : wr.iterAt (w.heap.size + 1) s (pos + (Utf8.decode s pos).2) = W1 at *;have HW:=hid hW
   clear hW;obtain ⟨x1,x2,x3⟩:=x
   simp only at hst
   rcases hst with ⟨rfl,rfl,hf⟩ | ⟨rfl,rfl,rfl,hf⟩ | ⟨rfl,rfl,rfl,rfl,hf⟩
   ·have HF:=hid hf
    have HP0:=hid (HP.out 0 c c1 c2 rfl);clear hf HP;go_wp2_with fail;go_roundg l.length
    case measure=>rw [HG.out]; simp
    case rel=>exact ⟨k,1,_,l,c,c1,c2,rfl,rfl,HP0.out,HF.out⟩
   ·have HF:=hid hf
    have HP0:=hid (HP.out 1 c0 c c2 rfl);clear hf HP;go_wp2_with fail;go_roundg l.length
    case measure=>rw [HG.out]; simp
    case rel=>exact ⟨k,2,_,l,c0,c,c2,rfl,rfl,HP0.out,HF.out⟩
   ·have HP0:=hid (HP.out 2 c0 c1 c rfl);obtain ⟨p0,p1,p2,_⟩:=cells3 HP0.out.row
    have HFF:=hid hf
    have HX:=hid hx
    clear HP hf hx;go_wp2_with (at_builtin; refine wpList_r3 rfl (.tmp 23) (.tmp 25) rfl (W1.setCell ⟨w.heap.size,2,none⟩ (.int .i32 c)) (w.heap.size + 2) k (.slice ao2 k cap2) ((T.take k).flatMap c3) (c0,c1,c) rfl W1.heap.size (by simp) rfl HP0.out.own (by omega) HP0.out.size ?_; intro v' w' ho hb; obtain ⟨ao3,cap3,rfl⟩:=own_slice ho; have HN:=hid (HP0.out.next HX.out ho hb); clear ho hb)
    go_roundg l.length
    case measure=>rw [HG.out]; simp
    case rel=>exact ⟨k + 1,0,_,l,c0,c1,c,rfl,rfl,HN.out,HFF.out _ _⟩
theorem rows2_any (s : ByteArray) (T : List R3) (w : World) (h : Dec s 0 (flat2 T)) (hl : T.length <= 1000) (hz : ∀ x ∈ T,x.2.2 = 0) :
 Calls Tryz.prog 41 #[.string s,.int .i64 2] w fun e w'=>∃ v,e = .returned v ∧ w'.ownsRow w.heap.size 76 3 v T.length (T.flatMap c3) ∧ Below w.heap.size w w':=by
 have HD:=hid h
 clear h;have HZ:=hid hz
 clear hz;go_enter Tryz.func41,Tryz.ntmps41
 go_wp2_with fail;go_loopg [7,5] (flat2 T).length (fun g av ov wr=>∃ (k j pos : Nat) (rest : List Int) (c0 c1 c2 : Int),g = rest.length ∧ av = .int .i64 j ∧ Hid (RwW w s T k pos rest c0 c1 c2 ov wr) ∧ Hid (c2 = 0 ∧ Far2 T k j rest c0))
 case atStart =>
  refine ⟨0,0,0,flat2 T,0,0,0,rfl,rfl,⟨HD.out,?_,?_,World.ownsRow_nil _ _ _ _,?_,?_,Nat.zero_le _⟩,rfl,.inl ⟨rfl,rfl⟩⟩
  ·exact (Below.heap_alloc _ _ _ (by simp)).trans (heap_alloc_new _ _)
  ·have:=heap_alloc_new (w.alloc (.cells #[.int .i32 0,.int .i32 0,.int .i32 0] 76)) (.stringIter s 0)
   rw [World.size_alloc] at this; exact this
  ·exact ((Below.refl _ _).alloc (Nat.le_refl _) _).alloc (by simp) _
  ·show _ <= ((w.alloc _).alloc _).heap.size
   simp
 case round =>
  obtain ⟨k,j,pos,rest,c0,c1,c2,hg,rfl,H,HF⟩:=hrel
  have HG:=hid hg
  clear hg;obtain ⟨ao2,cap2,rfl⟩:=own_slice H.out.own
  have hkl:=H.out.le
  obtain ⟨rfl,HF2⟩:=HF.out
  rcases far2 H.out.le HF2 with ⟨rfl,rfl⟩ | ⟨x,c,l,hx,rfl,hst⟩
  ·have hnx : ∀ ty,(Instr.next (.pointer (some ⟨w.heap.size + 1,0,none⟩)) true ty).run Tryz.prog wr = _:=fun ty=>run_next_end_at wr (w.heap.size + 1) s pos ty H.out.it H.out.dec
   have HO : Hid (wr.ownsRow w.heap.size 76 3 (.slice ao2 T.length cap2) T.length (T.flatMap c3)):=by
    have:=own_base H.out.own (show w.heap.size <= w.heap.size + 2 by omega)
    rw [List.take_length] at this; exact this
   have HB:=hid H.out.bel
   clear H HF;go_wp2_with fail;go_ret;exact ⟨_,rfl,HO.out,HB.out⟩
  ·have hnx : ∀ ty,(Instr.next (.pointer (some ⟨w.heap.size + 1,0,none⟩)) true ty).run Tryz.prog wr = .ok (.tuple #[.bool true,.int .i64 pos,.int .i32 c]) (wr.iterAt (w.heap.size + 1) s (pos + (Utf8.decode s pos).2)):=fun ty=>by
    rw [run_next_any_at wr (w.heap.size + 1) s pos ty H.out.it H.out.dec.1,H.out.dec.2.1]
   have hrow : (wr.iterAt (w.heap.size + 1) s (pos + (Utf8.decode s pos).2)).heap[w.heap.size]? = some (.cells #[.int .i32 c0,.int .i32 c1,.int .i32 0] 76):=by rw [iterAt_other _ _ _ _ _ (by omega)]; exact H.out.row
   obtain ⟨q0,q1,q2,qf⟩:=cells3 hrow
   have HP:=hid (fun j d0 d1 d2 hd=>H.out.put j d0 d1 d2 hd)
   have hk1 : (k : Int) < 1000:=by have:=(List.getElem?_eq_some_iff.1 hx).1; omega
   have hsz : Hid (w.heap.size + 2 <= wr.heap.size):=H.out.size
   clear hrow H HF;generalize hW : wr.iterAt (w.heap.size + 1) s (pos + (Utf8.decode s pos).2) = W1 at *;have HW:=hid hW
   clear hW;obtain ⟨x1,x2,x3⟩:=x
   simp only at hst
   have hz3 : x3 = 0:=HZ.out _ (List.mem_of_getElem? hx)
   subst hz3;rcases hst with ⟨rfl,rfl,hf⟩ | ⟨rfl,rfl,rfl,hf⟩
   ·have HF:=hid hf
    have HP0:=hid (HP.out 0 c c1 0 rfl);clear hf HP;go_wp2_with fail;go_roundg l.length
    case measure=>rw [HG.out]; simp
    case rel=>exact ⟨k,1,_,l,c,c1,0,rfl,rfl,HP0.out,rfl,HF.out⟩
   ·have HP0:=hid (HP.out 1 c0 c 0 rfl);obtain ⟨p0,p1,p2,_⟩:=cells3 HP0.out.row
    have HFF:=hid hf
    have HX:=hid hx
    clear HP hf hx;go_wp2_with (at_builtin; refine wpList_r3 rfl (.tmp 23) (.tmp 25) rfl (W1.setCell ⟨w.heap.size,1,none⟩ (.int .i32 c)) (w.heap.size + 2) k (.slice ao2 k cap2) ((T.take k).flatMap c3) (c0,c,0) rfl W1.heap.size (by simp) rfl HP0.out.own (by omega) HP0.out.size ?_; intro v' w' ho hb; obtain ⟨ao3,cap3,rfl⟩:=own_slice ho; have HN:=hid (HP0.out.next HX.out ho hb); clear ho hb)
    go_roundg l.length
    case measure=>rw [HG.out]; simp
    case rel=>exact ⟨k + 1,0,_,l,c0,c,0,rfl,rfl,HN.out,rfl,HFF.out _⟩
def singT : List R3:=[
 (832,768,0),(833,769,0),(835,787,0),(894,59,0),(903,183,0),(8192,8194,0),(8193,8195,0),(8486,937,0),
 (8490,75,0),(8491,197,0)]
def pairT0 : List R3:=[
 (192,65,768),(193,65,769),(194,65,770),(195,65,771),(196,65,776),(197,65,778),(199,67,807),(200,69,768),
 (201,69,769),(202,69,770),(203,69,776),(204,73,768),(205,73,769),(206,73,770),(207,73,776),(209,78,771),
 (210,79,768),(211,79,769),(212,79,770),(213,79,771),(214,79,776),(217,85,768),(218,85,769),(219,85,770),
 (220,85,776),(221,89,769),(224,97,768),(225,97,769),(226,97,770),(227,97,771),(228,97,776),(229,97,778),
 (231,99,807),(232,101,768),(233,101,769),(234,101,770),(235,101,776),(236,105,768),(237,105,769),(238,105,770),
 (239,105,776),(241,110,771),(242,111,768),(243,111,769),(244,111,770),(245,111,771),(246,111,776),(249,117,768),
 (250,117,769),(251,117,770),(252,117,776),(253,121,769),(255,121,776),(256,65,772),(257,97,772),(258,65,774),
 (259,97,774),(260,65,808),(261,97,808),(262,67,769)]
def pairT1 : List R3:=[
 (263,99,769),(264,67,770),(265,99,770),(266,67,775),(267,99,775),(268,67,780),(269,99,780),(270,68,780),
 (271,100,780),(274,69,772),(275,101,772),(276,69,774),(277,101,774),(278,69,775),(279,101,775),(280,69,808),
 (281,101,808),(282,69,780),(283,101,780),(284,71,770),(285,103,770),(286,71,774),(287,103,774),(288,71,775),
 (289,103,775),(290,71,807),(291,103,807),(292,72,770),(293,104,770),(296,73,771),(297,105,771),(298,73,772),
 (299,105,772),(300,73,774),(301,105,774),(302,73,808),(303,105,808),(304,73,775),(308,74,770),(309,106,770),
 (310,75,807),(311,107,807),(313,76,769),(314,108,769),(315,76,807),(316,108,807),(317,76,780),(318,108,780),
 (323,78,769),(324,110,769),(325,78,807),(326,110,807),(327,78,780),(328,110,780),(332,79,772),(333,111,772),
 (334,79,774),(335,111,774),(336,79,779),(337,111,779)]
def pairT2 : List R3:=[
 (340,82,769),(341,114,769),(342,82,807),(343,114,807),(344,82,780),(345,114,780),(346,83,769),(347,115,769),
 (348,83,770),(349,115,770),(350,83,807),(351,115,807),(352,83,780),(353,115,780),(354,84,807),(355,116,807),
 (356,84,780),(357,116,780),(360,85,771),(361,117,771),(362,85,772),(363,117,772),(364,85,774),(365,117,774),
 (366,85,778),(367,117,778),(368,85,779),(369,117,779),(370,85,808),(371,117,808),(372,87,770),(373,119,770),
 (374,89,770),(375,121,770),(376,89,776),(377,90,769),(378,122,769),(379,90,775),(380,122,775),(381,90,780),
 (382,122,780),(416,79,795),(417,111,795),(431,85,795),(432,117,795),(461,65,780),(462,97,780),(463,73,780),
 (464,105,780),(465,79,780),(466,111,780),(467,85,780),(468,117,780),(469,220,772),(470,252,772),(471,220,769),
 (472,252,769),(473,220,780),(474,252,780),(475,220,768)]
def pairT3 : List R3:=[
 (476,252,768),(836,776,769),(902,913,769),(904,917,769),(905,919,769),(906,921,769),(908,927,769),(910,933,769),
 (911,937,769),(912,970,769),(938,921,776),(939,933,776),(940,945,769),(941,949,769),(942,951,769),(943,953,769),
 (944,971,769),(970,953,776),(971,965,776),(972,959,769),(973,965,769),(974,969,769),(1024,1045,768),(1025,1045,776),
 (1027,1043,769),(1031,1030,776),(1036,1050,769),(1037,1048,768),(1038,1059,774),(1049,1048,774),(1081,1080,774),(1104,1077,768),
 (1105,1077,776),(1107,1075,769),(1111,1110,776),(1116,1082,769),(1117,1080,768),(1118,1091,774),(1570,1575,1619),(1571,1575,1620),
 (1572,1608,1620),(1573,1575,1621),(1574,1610,1620),(1728,1749,1620),(1730,1729,1620),(1747,1746,1620),(2345,2344,2364),(2353,2352,2364),
 (2356,2355,2364),(2392,2325,2364),(2393,2326,2364),(2394,2327,2364),(2395,2332,2364),(2396,2337,2364),(2397,2338,2364),(2398,2347,2364),
 (2399,2351,2364),(7840,65,803),(7841,97,803),(7842,65,777)]
def pairT4 : List R3:=[
 (7843,97,777),(7844,194,769),(7845,226,769),(7846,194,768),(7847,226,768),(7848,194,777),(7849,226,777),(7850,194,771),
 (7851,226,771),(7852,7840,770),(7853,7841,770),(7854,258,769),(7855,259,769),(7856,258,768),(7857,259,768),(7858,258,777),
 (7859,259,777),(7860,258,771),(7861,259,771),(7862,7840,774),(7863,7841,774),(7864,69,803),(7865,101,803),(7866,69,777),
 (7867,101,777),(7868,69,771),(7869,101,771),(7870,202,769),(7871,234,769),(7872,202,768),(7873,234,768),(7874,202,777),
 (7875,234,777),(7876,202,771),(7877,234,771),(7878,7864,770),(7879,7865,770),(7880,73,777),(7881,105,777),(7882,73,803),
 (7883,105,803),(7884,79,803),(7885,111,803),(7886,79,777),(7887,111,777),(7888,212,769),(7889,244,769),(7890,212,768),
 (7891,244,768),(7892,212,777),(7893,244,777),(7894,212,771),(7895,244,771),(7896,7884,770),(7897,7885,770),(7898,416,769),
 (7899,417,769),(7900,416,768),(7901,417,768),(7902,416,777)]
def pairT5 : List R3:=[
 (7903,417,777),(7904,416,771),(7905,417,771),(7906,416,803),(7907,417,803),(7908,85,803),(7909,117,803),(7910,85,777),
 (7911,117,777),(7912,431,769),(7913,432,769),(7914,431,768),(7915,432,768),(7916,431,777),(7917,432,777),(7918,431,771),
 (7919,432,771),(7920,431,803),(7921,432,803),(7922,89,768),(7923,121,768),(7924,89,803),(7925,121,803),(7926,89,777),
 (7927,121,777),(7928,89,771),(7929,121,771),(12364,12363,12441),(12366,12365,12441),(12368,12367,12441),(12370,12369,12441),(12372,12371,12441),
 (12374,12373,12441),(12376,12375,12441),(12378,12377,12441),(12380,12379,12441),(12382,12381,12441),(12384,12383,12441),(12386,12385,12441),(12389,12388,12441),
 (12391,12390,12441),(12393,12392,12441),(12400,12399,12441),(12401,12399,12442),(12403,12402,12441),(12404,12402,12442),(12406,12405,12441),(12407,12405,12442),
 (12409,12408,12441),(12410,12408,12442),(12412,12411,12441),(12413,12411,12442),(12436,12358,12441),(12446,12445,12441),(12460,12459,12441),(12462,12461,12441),
 (12464,12463,12441),(12466,12465,12441),(12468,12467,12441)]
def pairT6 : List R3:=[
 (12470,12469,12441),(12472,12471,12441),(12474,12473,12441),(12476,12475,12441),(12478,12477,12441),(12480,12479,12441),(12482,12481,12441),(12485,12484,12441),
 (12487,12486,12441),(12489,12488,12441),(12496,12495,12441),(12497,12495,12442),(12499,12498,12441),(12500,12498,12442),(12502,12501,12441),(12503,12501,12442),
 (12505,12504,12441),(12506,12504,12442),(12508,12507,12441),(12509,12507,12442),(12532,12454,12441),(12535,12527,12441),(12536,12528,12441),(12537,12529,12441),
 (12538,12530,12441),(12542,12541,12441)]
def pairT : List R3:=pairT0 ++ pairT1 ++ pairT2 ++ pairT3 ++ pairT4 ++ pairT5 ++ pairT6
def enc8 (c : Int) : List UInt8 :=
 if c < 128 then [c.toNat.toUInt8] else if c < 2048 then [(192 + c.toNat / 64).toUInt8,(128 + c.toNat % 64).toUInt8]
 else [(224 + c.toNat / 4096).toUInt8,(128 + c.toNat / 64 % 64).toUInt8,(128 + c.toNat % 64).toUInt8]
def pairsS : ByteArray:=⟨((flat3 pairT).flatMap enc8).toArray⟩
def singS : ByteArray:=⟨((flat2 singT).flatMap enc8).toArray⟩
def decB : Nat -> List UInt8 -> List Int -> Bool
 | n,_,[]=>n == 0
 | n,l,c :: cs=>Nat.blt 0 n && (((decodeN n (l.getD 0 0).toNat (l.getD 1 0).toNat (l.getD 2 0).toNat (l.getD 3 0).toNat).1 : Int) == c) && decB (n - (decodeN n (l.getD 0 0).toNat (l.getD 1 0).toNat (l.getD 2 0).toNat (l.getD 3 0).toNat).2) (l.drop (decodeN n (l.getD 0 0).toNat (l.getD 1 0).toNat (l.getD 2 0).toNat (l.getD 3 0).toNat).2) cs
theorem get_drop (s : ByteArray) (i j : Nat) : s.get! (i + j) = (s.data.toList.drop i).getD j 0:=by
 cases s with
 | mk d =>
  show d[i + j]! = _
  rw [List.getD_eq_getElem?_getD,List.getElem?_drop,Array.getElem?_toList,getElem!_def];cases d[i + j]? <;> rfl
theorem dec_of (s : ByteArray) : ∀ (cs : List Int) (pos : Nat),decB (s.size - pos) (s.data.toList.drop pos) cs = true -> Dec s pos cs
 | [],pos,h=>by
  have : s.size - pos = 0:=by simpa [decB] using h
  show ¬ pos < s.size
  omega
 | c :: cs,pos,h=>by
  have e:=decode_at s pos
  have g0:=get_drop s pos 0
  rw [Nat.add_zero] at g0;rw [g0,get_drop s pos 1,get_drop s pos 2,get_drop s pos 3] at e;unfold decB at h;rw [<- e,Bool.and_eq_true,Bool.and_eq_true] at h;obtain ⟨⟨h1,h2⟩,h3⟩:=h
  have h1' : 0 < s.size - pos:=by simpa [Nat.blt_eq] using h1
  refine ⟨by omega,eq_of_beq h2,dec_of s cs _ ?_⟩
  rw [<- Nat.sub_sub,<- List.drop_drop]; exact h3
theorem decB_sing : decB singS.size singS.data.toList (flat2 singT) = true:=by kernel_rfl
theorem decB_pairs : decB pairsS.size pairsS.data.toList (flat3 pairT) = true:=by kernel_rfl
theorem dec_of0 (s : ByteArray) (cs : List Int) (h : decB s.size s.data.toList cs = true) : Dec s 0 cs:=dec_of s cs 0 (by rw [Nat.sub_zero,List.drop_zero]; exact h)
theorem dec_sing : Dec singS 0 (flat2 singT):=dec_of0 singS _ decB_sing
theorem dec_pairs : Dec pairsS 0 (flat3 pairT):=dec_of0 pairsS _ decB_pairs
theorem pair_len : Nat.ble pairT.length 400 = true:=by kernel_rfl
theorem sing_zero : singT.all (fun x=>x.2.2 == 0) = true:=by kernel_rfl
set_option maxRecDepth 100000
open Go.Maps (Keyed IsMap)
structure MapIs {κ : Type} (D : DataW Unit) (kl : κ -> Lit) (ok : κ -> Prop) (f : κ -> Option (DataW Unit)) : Prop where
 isMap : IsMap D
 at' : ∀ k,ok k -> ∀ z,D.atKey (kl k) z = (f k).getD z
 has : ∀ k,ok k -> Maps.has D (kl k) = (f k).isSome
theorem MapIs.nil {κ : Type} (kl : κ -> Lit) (ok : κ -> Prop) : MapIs (.map []) kl ok (fun _=>none):=⟨Maps.isMap_empty,fun _ _ _=>rfl,fun _ _=>rfl⟩
theorem MapIs.put {κ : Type} [DecidableEq κ] {D : DataW Unit} {kl : κ -> Lit} {ok : κ -> Prop} {f : κ -> Option (DataW Unit)} (h : MapIs D kl ok f) (inj : ∀ a b,ok a -> ok b -> kl a = kl b -> a = b) {k : κ} (hk : ok k) (hl : WideAt.IsKeyLit (kl k)) (d : DataW Unit) :
 MapIs (D.put (kl k) d) kl ok (fun x=>if x = k then some d else f x):=by
 refine ⟨h.isMap.put _ _,fun x hx z=>?_,fun x hx=>?_⟩
 ·by_cases e : x = k
  ·subst e; rw [if_pos rfl,Maps.atKey_put_same h.isMap hl]; rfl
  ·rw [if_neg e,Maps.atKey_put_other (fun e2=>e (inj _ _ hx hk e2))]; exact h.at' x hx z
 ·by_cases e : x = k
  ·subst e; rw [if_pos rfl,Maps.has_put_same h.isMap hl]; rfl
  ·rw [if_neg e,Maps.has_put_other (fun e2=>e (inj _ _ hx hk e2))]; exact h.has x hx
def I32 (r : Int) : Prop:=-2147483648 <= r ∧ r <= 2147483647
theorem I32.wf {r : Int} (h : I32 r) : (Lit.int .i32 r).wf = true:=by
 have e1 : IntKind.i32.min = -2147483648:=by decide
 have e2 : IntKind.i32.max = 2147483647:=by decide
 simp only [Lit.wf,e1,e2,Bool.and_eq_true,decide_eq_true_eq]; exact h
def I64 (r : Int) : Prop:=0 <= r ∧ r <= 1000000
theorem I64.wf {r : Int} (h : I64 r) : (Lit.int .i64 r).wf = true:=by
 have e1 : IntKind.i64.min = -9223372036854775808:=by decide
 have e2 : IntKind.i64.max = 9223372036854775807:=by decide
 obtain ⟨h1,h2⟩:=h
 simp only [Lit.wf,e1,e2,Bool.and_eq_true,decide_eq_true_eq]; omega
abbrev Pt:=Int × Int × Int
def pv (x : Pt) : Value:=.agg #[.int .i32 x.1,.int .i32 x.2.1,.int .i64 x.2.2]
def pd (x : Pt) : DataW Unit:=.agg [.lit (.int .i32 x.1),.lit (.int .i32 x.2.1),.lit (.int .i64 x.2.2)]
def R1 : Value -> Option (DataW Unit × List MemPlace)
 | .agg ⟨[.int .i32 a,.int .i32 b,.int .i64 n]⟩=>some (pd (a,b,n),[])
 | _=>none
theorem R1_pv (x : Pt) : R1 (pv x) = some (pd x,[]):=rfl
theorem R1_inv {v : Value} {x : Pt} {ps : List MemPlace} (h : R1 v = some (pd x,ps)) : v = pv x:=by
 unfold R1 at h;split at h
 ·simp only [pd,Option.some.injEq,Prod.mk.injEq,DataW.agg.injEq,List.cons.injEq,DataW.lit.injEq,Lit.int.injEq,true_and,and_true] at h
  obtain ⟨⟨h1,h2,h3⟩,_⟩:=h
  subst h1 h2 h3; rfl
 ·exact absurd h (by simp)
def k32 (r : Int) : Lit:=.int .i32 r
theorem k32_inj : ∀ a b,I32 a -> I32 b -> k32 a = k32 b -> a = b:=fun a b _ _ h=>by simpa [k32] using h
theorem Tryz.law32 : Keyed Tryz.prog 21:=Maps.int_keyed Tryz.underlying21
theorem key32 {r : Int} (h : I32 r) : keyOf Tryz.prog 21 (.int .i32 r) = some (k32 r):=by
 unfold keyOf;simp only [Tryz.underlying21]
 unfold mapKey;simp [Tryz.underlying21,h.wf,k32]
def DownW (w : World) (b n : Nat) (f : Int -> Option Pt) (sz : Nat) : Prop :=
 ∃ D,w.ownsMap Tryz.prog 21 R1 b n D ∧ MapIs D k32 I32 (fun r=>(f r).map pd) ∧ Maps.size D = sz
theorem zero_parts (w : World) : (zeroValue 78).run Tryz.prog w = .ok (pv (0,0,0)) w:=by
 have h : (Tryz.prog.info? 78).map (fun i=>i.zero) = some (some (pv (0,0,0))):=by kernel_rfl
 obtain ⟨i,hi,hz⟩:=Option.map_eq_some_iff.1 h
 simp [zeroValue,typeInfo,hi,hz]
theorem zero_i64 (w : World) : (zeroValue 3).run Tryz.prog w = .ok (.int .i64 0) w:=by
 have h : (Tryz.prog.info? 3).map (fun i=>i.zero) = some (some (.int .i64 0)):=by kernel_rfl
 obtain ⟨i,hi,hz⟩:=Option.map_eq_some_iff.1 h
 simp [zeroValue,typeInfo,hi,hz]
theorem zero_i32 (w : World) : (zeroValue 21).run Tryz.prog w = .ok (.int .i32 0) w:=by
 have h : (Tryz.prog.info? 21).map (fun i=>i.zero) = some (some (.int .i32 0)):=by kernel_rfl
 obtain ⟨i,hi,hz⟩:=Option.map_eq_some_iff.1 h
 simp [zeroValue,typeInfo,hi,hz]
theorem DownW.look {w : World} {b n sz : Nat} {f : Int -> Option Pt} (h : DownW w b n f sz) {r : Int} (hr : I32 r) :
 (Instr.lookup 69 (.map (some b)) (.int .i32 r) false).run Tryz.prog w = .ok (pv ((f r).getD (0,0,0))) w:=by
 obtain ⟨D,ho,hm,_⟩:=h
 obtain ⟨v,ps,hrun,hv⟩:=ho.lookup Tryz.law32 Tryz.underlying69 (zero_parts w) (R1_pv (0,0,0)) (key32 hr)
 rw [hm.at' r hr] at hv;have e : ((f r).map pd).getD (pd (0,0,0)) = pd ((f r).getD (0,0,0)):=by cases f r <;> rfl
 rw [e] at hv;rw [hrun,R1_inv hv]
theorem DownW.upd {w : World} {b n sz : Nat} {f : Int -> Option Pt} (h : DownW w b n f sz) (hn : n < 5000) {r : Int} (hr : I32 r) (x : Pt) :
 ∃ w',(Instr.mapUpdate 69 (.map (some b)) (.int .i32 r) (pv x)).run Tryz.prog w = .ok () w' ∧ DownW w' b (n + 1) (fun y=>if y = r then some x else f y) (if (f r).isSome then sz else sz + 1) ∧ w.grownBy w' (some b):=by
 obtain ⟨D,ho,hm,hs⟩:=h
 obtain ⟨w',hrun,ho',hg⟩:=ho.update Tryz.law32 Tryz.underlying69 (by unfold maxLen; omega) (key32 hr) (R1_pv x)
 refine ⟨w',hrun,⟨_,ho',?_,?_⟩,hg⟩
 ·have:=hm.put k32_inj hr (Tryz.law32.key (key32 hr)) (pd x)
  have e : (fun y=>if y = r then some (pd x) else (f y).map pd) = fun y=>((if y = r then some x else f y).map pd):=by funext y; split <;> rfl
  rw [e] at this; exact this
 ·rw [Maps.size_put (ho.tidy Tryz.law32)];have e:=hm.has r hr
  show (if Maps.has D (k32 r) then _ else _) = _
  rw [e,Option.isSome_map,hs]
theorem DownW.block {w w' : World} {b n sz : Nat} {f : Int -> Option Pt} (h : DownW w b n f sz) (e : w'.heap[b]? = w.heap[b]?) : DownW w' b n f sz:=by
 obtain ⟨D,⟨es,clock,h1,h2⟩,hm⟩:=h
 exact ⟨D,⟨es,clock,e.trans h1,h2⟩,hm⟩
theorem DownW.lt {w : World} {b n sz : Nat} {f : Int -> Option Pt} (h : DownW w b n f sz) : b < w.heap.size:=by obtain ⟨D,ho,_⟩:=h; exact ho.lt
def SecW (w : World) (b n : Nat) (f : Int -> Option Int) : Prop :=
 ∃ D,w.ownsMap Tryz.prog 21 (plainElem (H:=Unit) Tryz.prog 3) b n D ∧ MapIs D k32 I32 (fun r=>(f r).map fun c=>.lit (.int .i64 c))
theorem SecW.look {w : World} {b n : Nat} {f : Int -> Option Int} (h : SecW w b n f) {r : Int} (hr : I32 r) :
 (Instr.lookup 71 (.map (some b)) (.int .i32 r) false).run Tryz.prog w = .ok (.int .i64 ((f r).getD 0)) w:=by
 obtain ⟨D,ho,hm⟩:=h
 obtain ⟨c,hrun,hat,_⟩:=ho.lookup_int Tryz.law32 Tryz.underlying71 Tryz.underlying3 (zero_i64 w) (key32 hr)
 rw [hm.at' r hr] at hat;have e : ((f r).map fun c=>(DataW.lit (.int .i64 c) : DataW Unit)).getD (.lit (.int .i64 0)) = .lit (.int .i64 ((f r).getD 0)):=by cases f r <;> rfl
 rw [e] at hat;simp only [DataW.lit.injEq,Lit.int.injEq,true_and] at hat
 rw [hrun,hat]
theorem SecW.upd {w : World} {b n : Nat} {f : Int -> Option Int} (h : SecW w b n f) (hn : n < 5000) {r : Int} (hr : I32 r) {c : Int} (hc : I64 c) :
 ∃ w',(Instr.mapUpdate 71 (.map (some b)) (.int .i32 r) (.int .i64 c)).run Tryz.prog w = .ok () w' ∧ SecW w' b (n + 1) (fun y=>if y = r then some c else f y) ∧ w.grownBy w' (some b):=by
 obtain ⟨D,ho,hm⟩:=h
 obtain ⟨w',hrun,ho',hg⟩:=ho.update Tryz.law32 Tryz.underlying71 (by unfold maxLen; omega) (key32 hr) (plainElem_int Tryz.underlying3 hc.wf)
 refine ⟨w',hrun,⟨_,ho',?_⟩,hg⟩
 have:=hm.put k32_inj hr (Tryz.law32.key (key32 hr)) (.lit (.int .i64 c))
 have e : (fun y=>if y = r then some (DataW.lit (.int .i64 c) : DataW Unit) else (f y).map fun c=>.lit (.int .i64 c)) = fun y=>((if y = r then some c else f y).map fun c=>.lit (.int .i64 c)):=by funext y; split <;> rfl
 rw [e] at this; exact this
theorem SecW.block {w w' : World} {b n : Nat} {f : Int -> Option Int} (h : SecW w b n f) (e : w'.heap[b]? = w.heap[b]?) : SecW w' b n f:=by
 obtain ⟨D,⟨es,clock,h1,h2⟩,hm⟩:=h
 exact ⟨D,⟨es,clock,e.trans h1,h2⟩,hm⟩
theorem SecW.lt {w : World} {b n : Nat} {f : Int -> Option Int} (h : SecW w b n f) : b < w.heap.size:=by obtain ⟨D,ho,_⟩:=h; exact ho.lt
def kk (x : Int × Int) : Lit:=.string (keyBytes [.int .i32 x.1,.int .i32 x.2])
def I2 (x : Int × Int) : Prop:=I32 x.1 ∧ I32 x.2
theorem Tryz.laidOut : laidOutB Tryz.prog = true:=by kernel_rfl
theorem Tryz.rowKk : (140 : TypeId) < Tryz.prog.types.size:=of_decide_eq_true (by kernel_rfl)
theorem Tryz.wideKk : (match Tryz.prog.underlying 140 with | some (.array _ _) | some (.struct _)=>true | _=>false) = true:=by rw [Tryz.underlying140]
theorem Tryz.lawKk : Keyed Tryz.prog 140:=Keyed.of_law (deep_law_laid Tryz.laidOut (m:=2) (by omega) Tryz.rowKk (by kernel_rfl) Tryz.wideKk)
theorem Tryz.keyTypeKk : Tryz.prog.keyType 140 = true:=by kernel_rfl
theorem Tryz.cellsKk : Tryz.prog.cellsOf 140 = 2:=by kernel_rfl
theorem Tryz.cellsI32 : Tryz.prog.cellsOf 21 = 1:=by kernel_rfl
theorem keyKk {x : Int × Int} (h : I2 x) : keyOf Tryz.prog 140 (.agg #[.int .i32 x.1,.int .i32 x.2]) = some (kk x):=by
 obtain ⟨n,hn⟩ : ∃ n,Tryz.prog.types.size = n + 1:=⟨Tryz.prog.types.size - 1,(Nat.sub_add_cancel (Nat.lt_of_le_of_lt (Nat.zero_le _) Tryz.rowKk)).symm⟩
 have hf : (Value.agg #[.int .i32 x.1,.int .i32 x.2]).formed Tryz.prog 140 = true:=by simp [Value.formed,Tryz.underlying140,Tryz.cellsKk]
 unfold keyOf;simp only [Tryz.underlying140,Tryz.keyTypeKk,hf,Bool.and_self,if_true,Value.cells]
 rw [hn];unfold Program.keyLits;simp only [Tryz.underlying140,Tryz.cellsKk,Tryz.cellsI32]
 have h1:=h.1.wf
 have h2:=h.2.wf
 simp [List.range,List.range.loop,Program.keyLits,Tryz.underlying21,h1,h2,kk]
theorem kk_inj : ∀ a b,I2 a -> I2 b -> kk a = kk b -> a = b:=fun a b ha hb h=>by
 have:=Tryz.lawKk.inj (keyKk ha) (by rw [h]; exact keyKk hb)
 simp at this
 exact Prod.ext this.1 this.2
def UpW (w : World) (b n : Nat) (f : Int × Int -> Option Int) : Prop :=
 ∃ D,w.ownsMap Tryz.prog 140 (plainElem (H:=Unit) Tryz.prog 21) b n D ∧ MapIs D kk I2 (fun x=>(f x).map fun c=>.lit (.int .i32 c))
theorem UpW.look {w : World} {b n : Nat} {f : Int × Int -> Option Int} (h : UpW w b n f) {x y : Int} (hx : I32 x) (hy : I32 y) :
 (Instr.lookup 70 (.map (some b)) (.agg #[.int .i32 x,.int .i32 y]) true).run Tryz.prog w = .ok (.tuple #[.int .i32 ((f (x,y)).getD 0),.bool (f (x,y)).isSome]) w:=by
 obtain ⟨D,ho,hm⟩:=h
 have hk : I2 (x,y):=⟨hx,hy⟩
 obtain ⟨v,ps,hrun,hv⟩:=ho.look_ok Tryz.lawKk Tryz.underlying70 (zero_i32 w) (plainElem_int Tryz.underlying21 (by decide)) (keyKk hk)
 obtain ⟨c,rfl,hc,_⟩:=plainElem_int_inv Tryz.underlying21 hv
 simp only [Prod.mk.injEq] at hc
 have hat:=hc.1
 rw [hm.at' _ hk] at hat;have e : ((f (x,y)).map fun c=>(DataW.lit (.int .i32 c) : DataW Unit)).getD (.lit (.int .i32 0)) = .lit (.int .i32 ((f (x,y)).getD 0)):=by cases f (x,y) <;> rfl
 rw [e] at hat;simp only [DataW.lit.injEq,Lit.int.injEq,true_and] at hat
 rw [hrun,hm.has _ hk,Option.isSome_map,hat]
theorem UpW.upd {w : World} {b n : Nat} {f : Int × Int -> Option Int} (h : UpW w b n f) (hn : n < 5000) {x y : Int} (hx : I32 x) (hy : I32 y) {c : Int} (hc : I32 c) :
 ∃ w',(Instr.mapUpdate 70 (.map (some b)) (.agg #[.int .i32 x,.int .i32 y]) (.int .i32 c)).run Tryz.prog w = .ok () w' ∧ UpW w' b (n + 1) (fun z=>if z = (x,y) then some c else f z) ∧ w.grownBy w' (some b):=by
 obtain ⟨D,ho,hm⟩:=h
 have hk : I2 (x,y):=⟨hx,hy⟩
 obtain ⟨w',hrun,ho',hg⟩:=ho.update Tryz.lawKk Tryz.underlying70 (by unfold maxLen; omega) (keyKk hk) (plainElem_int Tryz.underlying21 hc.wf)
 refine ⟨w',hrun,⟨_,ho',?_⟩,hg⟩
 have:=hm.put kk_inj hk (Tryz.lawKk.key (keyKk hk)) (.lit (.int .i32 c))
 have e : (fun z=>if z = (x,y) then some (DataW.lit (.int .i32 c) : DataW Unit) else (f z).map fun c=>.lit (.int .i32 c)) = fun z=>((if z = (x,y) then some c else f z).map fun c=>.lit (.int .i32 c)):=by funext z; split <;> rfl
 rw [e] at this; exact this
theorem UpW.block {w w' : World} {b n : Nat} {f : Int × Int -> Option Int} (h : UpW w b n f) (e : w'.heap[b]? = w.heap[b]?) : UpW w' b n f:=by
 obtain ⟨D,⟨es,clock,h1,h2⟩,hm⟩:=h
 exact ⟨D,⟨es,clock,e.trans h1,h2⟩,hm⟩
theorem UpW.lt {w : World} {b n : Nat} {f : Int × Int -> Option Int} (h : UpW w b n f) : b < w.heap.size:=by obtain ⟨D,ho,_⟩:=h; exact ho.lt
end Go.Proofs.YtkhipgcgcbhjoaaGreat.Pr
