import Derived.Test.YtkhipgcgcbhjoaaGreatDn10
import Derived.Deep.WholeRow
import Derived.Deep.LoopGhost
import Derived.Deep.Cut
import Derived.Deep.CutRange
import Derived.Deep.RegionWith
import Derived.Deep.RegionHeld3
import Derived.Deep.RegionLaw
set_option maxRecDepth 100000
set_option maxHeartbeats 4000000
namespace Go.Proofs.YtkhipgcgcbhjoaaGreat.Uc
open Go.RowKit
def z256 : Array Value:=Array.replicate 256 (.int .u16 0)
theorem z256_zero (w : World) : (zeroValue 211).run Tryz.prog w = .ok (.agg z256) w:=by kernel_rfl
def RowsIn (w : World) (v : Value) (l : List (SRow Nat)) : Prop :=
 (l = [] ∧ ∃ a cap,v = .slice a 0 cap) ∨ ∃ g off cap,v = .slice (some ⟨g,off,none⟩) l.length cap ∧ l.length <= cap ∧ g < w.heap.size ∧ ∀ j (h : j < l.length),
  w.cell? ⟨g,off + j * 3,none⟩ = some (.int .i32 l[j].f) ∧ w.cell? ⟨g,off + j * 3 + 1,none⟩ = some (.int .i32 l[j].t) ∧ w.cell? ⟨g,off + j * 3 + 2,none⟩ = some (.int .u16 l[j].v)
theorem RowsIn.step {w w' : World} {v : Value} {l : List (SRow Nat)} (h : RowsIn w v l) (hb : ∀ k,k < w.heap.size -> v.ownBlock = some k -> w'.heap[k]? = w.heap[k]?) : RowsIn w' v l:=by
 rcases h with h | ⟨g,off,cap,e,hcap,hlt,hc⟩
 ·exact .inl h
 ·have hk:=hb g hlt (by rw [e]; rfl)
  have hg : g < w'.heap.size:=by
   rcases Nat.lt_or_ge g w'.heap.size with h | h
   ·exact h
   ·rw [Array.getElem?_eq_none h,Array.getElem?_eq_getElem hlt] at hk; simp at hk
  refine .inr ⟨g,off,cap,e,hcap,hg,fun j hj=>?_⟩
  have:=hc j hj
  rw [World.cell?_of_block (a:=⟨g,off + j * 3,none⟩) hk,World.cell?_of_block (a:=⟨g,off + j * 3 + 1,none⟩) hk,World.cell?_of_block (a:=⟨g,off + j * 3 + 2,none⟩) hk]
  exact this
theorem RowsIn.slice {w : World} {v : Value} {l : List (SRow Nat)} (h : RowsIn w v l) : ∃ ao cap,v = .slice ao l.length cap ∧ l.length <= cap ∧ ∀ k (hk : k < l.length),∃ g off,ao = some ⟨g,off,none⟩ ∧ g < w.heap.size ∧
 w.cell? ⟨g,off + k * 3,none⟩ = some (.int .i32 l[k].f) ∧ w.cell? ⟨g,off + k * 3 + 1,none⟩ = some (.int .i32 l[k].t) ∧ w.cell? ⟨g,off + k * 3 + 2,none⟩ = some (.int .u16 l[k].v):=by
 rcases h with ⟨rfl,a,cap,rfl⟩ | ⟨g,off,cap,rfl,hcap,hlt,hc⟩
 ·exact ⟨a,cap,rfl,Nat.zero_le _,fun k hk=>absurd hk (by simp)⟩
 ·exact ⟨_,cap,rfl,hcap,fun k hk=>⟨g,off,rfl,hlt,hc k hk⟩⟩
def Fine (l : List (SRow Nat)) : Prop:=∀ x ∈ l,0 <= x.f ∧ x.f <= x.t ∧ x.t <= 1114111 ∧ x.v < 65536
def blkF (num : Int -> Nat) (first : Int) (j : Nat) : Value:=.int .u16 (num (first + j))
theorem rising_after {α : Type} : ∀ (l : List (SRow α)) (a : Int),Rising a l -> ∀ (k : Nat) (x : SRow α),l[k]? = some x -> a < x.f ∧ ∀ (j : Nat) (y : SRow α),k < j -> l[j]? = some y -> x.t < y.f
 | [],_,_,k,x,h=>by simp at h
 | r :: l,a,h,k,x,hk=>by
  obtain ⟨h1,h2,h3,h4⟩:=h
  cases k with
  | zero =>
   simp at hk; subst hk
   refine ⟨h1,fun j y hj hy=>?_⟩
   cases j with
   | zero=>omega
   | succ j=>exact (rising_after l _ h4 j y (by simpa using hy)).1
  | succ k =>
   have:=rising_after l _ h4 k x (by simpa using hk)
   refine ⟨by omega,fun j y hj hy=>?_⟩
   cases j with
   | zero=>omega
   | succ j=>exact this.2 j y (by omega) (by simpa using hy)
theorem at_drop_none {α : Type} (z : α) : ∀ (l : List (SRow α)) (r : Int),(∀ x ∈ l,¬ (x.f <= r ∧ r <= x.t)) -> at' z l r = z
 | [],_,_=>rfl
 | x :: l,r,h=>by
  have h0:=h x (by simp)
  have:=at_drop_none z l r (fun y hy=>h y (by simp [hy]))
  simp only [at',List.foldl_cons] at this ⊢
  rw [if_neg h0]; exact this
theorem at_append {α : Type} (z : α) (l m : List (SRow α)) (r : Int) : at' z (l ++ m) r = at' (at' z l r) m r:=by simp [at',List.foldl_append]
theorem at_take {α : Type} (z : α) (l : List (SRow α)) (k : Nat) (r : Int) (h : ∀ (j : Nat) (y : SRow α),k <= j -> l[j]? = some y -> r < y.f) : at' z (l.take k) r = at' z l r:=by
 conv=>rhs; rw [<- List.take_append_drop k l]
 rw [at_append];refine (at_drop_none _ _ _ ?_).symm
 intro x hx
 obtain ⟨j,hj⟩:=List.mem_iff_getElem?.1 hx
 rw [List.getElem?_drop] at hj;have:=h (k + j) x (by omega) hj
 omega
theorem take_succ' {α : Type} (l : List α) (k : Nat) (h : k < l.length) : l.take (k + 1) = l.take k ++ [l[k]]:=List.take_succ_eq_append_getElem h
structure CutW (w : World) (f : Nat -> Value) (wr : World) : Prop where
 out : wr.rowIs w.heap.size 211 256 (fun _=>.int .u16 0)
 row : wr.rowIs (w.heap.size + 1) 211 256 f
 bel : Below w.heap.size w wr
 size : w.heap.size + 2 <= wr.heap.size
theorem CutW.start (w : World) (f : Nat -> Value) (hf : ∀ j,f j = .int .u16 0) : CutW w f ((w.alloc (.cells z256 211)).alloc (.cells z256 211)):=by
 have hz : ∀ i,i < z256.size -> z256[i]? = some (.int .u16 0):=fun i hi=>by
  have : i < 256:=by simpa [z256] using hi
  simp [z256,this]
 have h1:=World.rowIs_alloc w z256 211 (fun _=>.int .u16 0) hz
 have h2:=World.rowIs_alloc (w.alloc (.cells z256 211)) z256 211 (fun _=>.int .u16 0) hz
 have e : z256.size = 256:=by simp [z256]
 rw [e] at h1 h2
 have e2 : (w.alloc (.cells z256 211)).heap.size = w.heap.size + 1:=by simp
 rw [e2] at h2;exact ⟨h1.alloc _,h2.congr (fun i _=>(hf i).symm),((Below.refl _ _).alloc (Nat.le_refl _) _).alloc (by simp) _,by simp⟩
theorem CutW.alloc {w wr : World} {f : Nat -> Value} (h : CutW w f wr) (o : Obj) : CutW w f (wr.alloc o) :=
 ⟨h.out.alloc o,h.row.alloc o,h.bel.alloc (by have:=h.size; omega) o,by have:=h.size; simp; omega⟩
theorem CutW.set {w wr : World} {f : Nat -> Value} (h : CutW w f wr) (i : Nat) (x : Value) : CutW w (fun j=>if j = i then x else f j) (wr.setCell ⟨w.heap.size + 1,i,none⟩ x) :=
 ⟨h.out.setOther (by simp) x,h.row.set i x,h.bel.setCell (p:=⟨w.heap.size + 1,i,none⟩) (by simp) x,by have:=h.size; simpa [World.setCell] using this⟩
theorem CutW.congr {w wr : World} {f g : Nat -> Value} (h : CutW w f wr) (e : ∀ j,j < 256 -> f j = g j) : CutW w g wr:=⟨h.out,h.row.congr e,h.bel,h.size⟩
theorem Tryz.info_blk : (Tryz.prog.info? 211).map (·.size) = some 256:=by kernel_rfl
theorem cut_end {w wr : World} {num : Int -> Nat} {first : Int} (h : CutW w (fun j=>blkF num first j) wr) : ∃ c z : Array Value,(Hid (wr.heap[w.heap.size + 1]? = some (.cells c 211 (0,0))) ∧ Hid ((Tryz.prog.info? 211).map (·.size) = some c.size) ∧
 Hid (wr.heap[w.heap.size]? = some (.cells z 211 (0,0))) ∧ Hid (z.size = c.size) ∧ Hid (c.all (·.oneCell') = true) ∧ Hid ((wr.setRow w.heap.size c).heap[w.heap.size]? = some (.cells c 211 (0,0))) ∧ Hid (c.size = 256 ∧ ∀ j,j < 256 -> c[j]? = some (blkF num first j))) ∧
 Below w.heap.size w (wr.setRow w.heap.size c):=by
 obtain ⟨c,hb,hn,hc⟩:=h.row
 obtain ⟨z,zb,zn,_⟩:=h.out
 refine ⟨c,z,⟨hb,by show _ = _; rw [hn]; exact Tryz.info_blk,zb,by show _ = _; omega,?_,setRow_heap wr _ z c _ _ zb,hn,hc⟩,?_⟩
 ·show _ = _;rw [Array.all_eq_true];intro i hi
  have:=hc i (by omega)
  rw [Array.getElem?_eq_getElem hi] at this;simp at this; rw [this]; rfl
 ·exact h.bel.trans ⟨rfl,rfl,rfl,by simp,fun k hk=>setRow_other wr _ k _ (by omega)⟩
theorem blk3 {w : World} {b : Nat} {x y z : Value} {t : TypeId} (h : w.heap[b]? = some (.cells #[x,y,z] t)) :
 w.cell? ⟨b,0,none⟩ = some x ∧ w.cell? ⟨b,1,none⟩ = some y ∧ w.cell? ⟨b,2,none⟩ = some z ∧ w.frozen? ⟨b,0,none⟩ = false ∧ w.frozen? ⟨b,1,none⟩ = false ∧ w.frozen? ⟨b,2,none⟩ = false:=by
 simp [World.cell?,World.frozen?,h]
theorem cut_any {w : World} {v : Value} {l : List (SRow Nat)} (h : RowsIn w v l) (a : Int) (hr : Rising a l) (hf : Fine l) (hl : l.length <= 5000) (first : Int) (h0 : 0 <= first) (h1 : first <= 1113856) :
 Calls Tryz.prog 151 #[v,.int .i32 first] w fun e w'=>∃ c : Array Value,e = .returned (.agg c) ∧ c.size = 256 ∧ (∀ j,j < 256 -> c[j]? = some (blkF (at' 0 l) first j)) ∧ Below w.heap.size w w':=by
 have hz:=z256_zero
 obtain ⟨ao,cap,rfl,_,hc⟩:=h.slice
 have HC:=hid hc
 have HR:=hid (And.intro hr hf);clear hc h hr hf;have HS:=hid (CutW.start w (fun j=>blkF (at' 0 (l.take 0)) first j) (fun j=>by simp [blkF,at']))
 go_enter Tryz.func151,Tryz.ntmps151
 go_wp2
 go_loopg [15] l.length (fun g i wr=>∃ k : Nat,k <= l.length ∧ g = l.length - k ∧ i = .int .i64 k ∧ CutW w (fun j=>blkF (at' 0 (l.take k)) first j) wr)
 case atStart=>exact ⟨0,Nat.zero_le _,by omega,rfl,HS.out⟩
 case round =>
  clear HS;obtain ⟨k,hk,hg,rfl,hcw⟩:=hrel
  have HG:=hid hg
  clear hg;by_cases hlt : k < l.length
  ·obtain ⟨gb,off,rfl,hgb,e0,e1,e2⟩:=HC.out k hlt
   have d0:=(hcw.bel.cell (p:=⟨gb,off + k * 3,none⟩) hgb).trans e0
   have d1:=(hcw.bel.cell (p:=⟨gb,off + k * 3 + 1,none⟩) hgb).trans e1
   have d2:=(hcw.bel.cell (p:=⟨gb,off + k * 3 + 2,none⟩) hgb).trans e2
   have HQ:=hid (HR.out.2 l[k] (List.getElem_mem hlt));clear e0 e1 e2;have hx:=hid (take_succ' l k hlt);have hkx : Hid (l[k]? = some l[k]):=List.getElem?_eq_getElem hlt
   generalize l[k] = x at *;obtain ⟨xf,xt,xv⟩:=x
   obtain ⟨p1,p2,p3,p4⟩:=HQ.out
   simp only at p1 p2 p3 p4 d0 d1 d2
   clear HQ;by_cases hbr : first + 256 - 1 < xf
   ·have HT : Hid (CutW w (fun j=>blkF (at' 0 l) first j) (wr.alloc (.cells #[.int .i32 xf,.int .i32 xt,.int .u16 xv] 209))):=by
     refine (hcw.alloc _).congr (fun j hj=>?_)
     show Value.int .u16 _ = Value.int .u16 _
     rw [at_take];intro i y hi hy
     have hra:=rising_after l a HR.out.1 k _ hkx.out
     by_cases e : i = k
     ·subst e;have:=hkx.out.symm.trans hy
      simp at this
      rw [<- this]; simp only; omega
     ·have:=hra.2 i y (by omega) hy
      simp only at this; omega
    obtain ⟨c,z,⟨g1,g2,g3,g4,g5,g6,g7⟩,HEND⟩:=cut_end HT.out
    clear hcw HT hkx hx HR HC;go_wp2_with (first | (refine wpList_load_row rfl 211 (.tmp 5) rfl (w.heap.size + 1) rfl 211 c (0,0) _ g1.out Tryz.underlying211 rfl g2.out ?_) | (refine wpList_store_row rfl 211 (.tmp 4) (.tmp 42) rfl w.heap.size c rfl rfl 211 z g3.out g2.out g4.out g5.out ?_))
    exact bodyPost_ret (v:=.agg c) (results_cell_row Tryz.results151 _ _ w.heap.size 211 c (0,0) _ rfl g6.out Tryz.underlying211 rfl g2.out) rfl ⟨c,rfl,g7.out.1,g7.out.2,HEND⟩
   ·have hsz:=hcw.size
    replace hcw:=hcw.alloc (.cells #[.int .i32 xf,.int .i32 xt,.int .u16 xv] 209)
    have hnew : (wr.alloc (.cells #[.int .i32 xf,.int .i32 xt,.int .u16 xv] 209)).heap[wr.heap.size]? = some (.cells #[.int .i32 xf,.int .i32 xt,.int .u16 xv] 209):=heap_alloc_new wr _
    have HN:=hid (And.intro hcw hnew);have hcw' : Hid (w.heap.size + 2 <= wr.heap.size):=hsz
    clear hcw hnew;have hxf : ¬ first + 256 - 1 < xf:=hbr
    go_wp2
    all_goals
     generalize wr.alloc (.cells #[.int .i32 xf,.int .i32 xt,.int .u16 xv] 209) = W2 at *;generalize wr.heap.size = lb at *;clear d0 d1 d2;go_loopg [9] (min xt (first + 255) + 1 - max xf first).toNat (fun g i wx=>∃ r : Int,i = .int .i32 r ∧ max xf first <= r ∧ r <= max (max xf first) (min xt (first + 255) + 1) ∧ g = (min xt (first + 255) + 1 - r).toNat ∧
      wx.heap[lb]? = some (.cells #[.int .i32 xf,.int .i32 xt,.int .u16 xv] 209) ∧
      CutW w (fun j=>if max xf first <= first + j ∧ first + (j : Int) < r then .int .u16 xv else blkF (at' 0 (l.take k)) first j) wx)
     case atStart =>
      refine ⟨_,rfl,by omega,by omega,by congr 1; omega,HN.out.2,HN.out.1.congr (fun j _=>?_)⟩
      rw [if_neg (by omega)]
     case round =>
      clear HN;obtain ⟨r,rfl,r1,r2,hgr,hloc,hcx⟩:=hrel
      obtain ⟨c0,c1,c2,_,_,_⟩:=blk3 hloc
      have HGR:=hid hgr
      clear hgr;by_cases hin : r <= xt ∧ r <= first + 255
      ·obtain ⟨i1,i2⟩:=hin
       obtain ⟨j0,rfl⟩ : ∃ j0 : Nat,r = first + j0:=⟨(r - first).toNat,by omega⟩
       have hj0 : j0 < 256:=by omega
       have cj:=hcx.row.cell hj0
       have fj:=hcx.row.frozen j0
       have q1 : first + (j0 : Int) - first = (j0 : Int):=by omega
       have HX:=hid (hcx.set j0 (.int .u16 xv));have HL:=hid ((Below.heap_setCell wr ⟨w.heap.size + 1,j0,none⟩ (.int .u16 xv) lb (by have:=hcw'.out; simp; omega)).trans hloc)
       clear hcx hloc;go_wp2
       all_goals
        go_roundg (min xt (first + 255) + 1 - (first + j0 + 1)).toNat
        case measure=>rw [HGR.out]; omega
        case rel =>
         refine ⟨first + j0 + 1,rfl,by omega,by omega,rfl,HL.out,HX.out.congr (fun j _=>?_)⟩
         by_cases e : j = j0
         ·subst e; rw [if_pos rfl,if_pos (by omega)]
         ·rw [if_neg e];by_cases e2 : max xf first <= first + j ∧ first + (j : Int) < first + j0
          ·rw [if_pos e2,if_pos (by omega)]
          ·rw [if_neg e2,if_neg (by omega)]
      ·have HE : Hid (CutW w (fun j=>blkF (at' 0 (l.take (k + 1))) first j) wr):=by
        refine hcx.congr (fun j hj=>?_)
        rw [hx.out];show _ = Value.int .u16 _
        rw [at_snoc];by_cases e2 : max xf first <= first + j ∧ first + (j : Int) < r
        ·rw [if_pos e2,if_pos (by simp only; omega)]
        ·rw [if_neg e2,if_neg (by simp only; omega)]; rfl
       clear hcx hx hkx;by_cases hm : first + 256 - 1 < xt
       ·have hm2 : ¬ r <= first + 256 - 1:=by omega
        clear hin;go_wp2
        all_goals
         go_roundg (l.length - (k + 1))
         case measure=>rw [HG.out]; omega
         case rel=>exact ⟨k + 1,by omega,rfl,by go_num,HE.out⟩
       ·have hm2 : ¬ r <= xt:=by omega
        clear hin;go_wp2
        all_goals
         go_roundg (l.length - (k + 1))
         case measure=>rw [HG.out]; omega
         case rel=>exact ⟨k + 1,by omega,rfl,by go_num,HE.out⟩
  ·have e : k = l.length:=by omega
   subst e;rw [List.take_length] at hcw;obtain ⟨c,z,⟨g1,g2,g3,g4,g5,g6,g7⟩,HEND⟩:=cut_end hcw
   clear hcw HR HC;go_wp2_with (first | (refine wpList_load_row rfl 211 (.tmp 5) rfl (w.heap.size + 1) rfl 211 c (0,0) _ g1.out Tryz.underlying211 rfl g2.out ?_) | (refine wpList_store_row rfl 211 (.tmp 4) (.tmp 42) rfl w.heap.size c rfl rfl 211 z g3.out g2.out g4.out g5.out ?_))
   exact bodyPost_ret (v:=.agg c) (results_cell_row Tryz.results151 _ _ w.heap.size 211 c (0,0) _ rfl g6.out Tryz.underlying211 rfl g2.out) rfl ⟨c,rfl,g7.out.1,g7.out.2,HEND⟩
set_option maxRecDepth 100000
open Go.Maps (Keyed IsMap)
def u16s (b : List Nat) : List Value:=b.map fun n : Nat=>.int .u16 (n : Int)
theorem u16s_len (b : List Nat) : (u16s b).length = b.length:=by simp [u16s]
theorem u16s_inj : ∀ {a b : List Nat},u16s a = u16s b -> a = b
 | [],[],_=>rfl
 | [],_ :: _,h=>by simp [u16s] at h
 | _ :: _,[],h=>by simp [u16s] at h
 | x :: a,y :: b,h=>by
  simp only [u16s,List.map_cons,List.cons.injEq,Value.int.injEq,true_and] at h
  rw [u16s_inj (a:=a) (b:=b) h.2]
  have:=h.1
  congr 1; omega
theorem wf_u16 (n : Nat) (h : n < 65536) : (Lit.int .u16 (n : Int)).wf = true:=by
 have e1 : IntKind.u16.min = 0:=by decide
 have e2 : IntKind.u16.max = 65535:=by decide
 simp only [Lit.wf,e1,e2,Bool.and_eq_true,decide_eq_true_eq]; omega
def BlkOk (b : List Nat) : Prop:=b.length = 256 ∧ ∀ x ∈ b,x < 65536
theorem Tryz.laidOut : laidOutB Tryz.prog = true:=by kernel_rfl
theorem Tryz.rowBlk : (211 : TypeId) < Tryz.prog.types.size:=of_decide_eq_true (by kernel_rfl)
theorem Tryz.wideBlk : (match Tryz.prog.underlying 211 with | some (.array _ _) | some (.struct _)=>true | _=>false) = true:=by rw [Tryz.underlying211]
theorem Tryz.lawBlk : Keyed Tryz.prog 211:=Keyed.of_law (deep_law_laid Tryz.laidOut (m:=2) (by omega) Tryz.rowBlk (by kernel_rfl) Tryz.wideBlk)
theorem Tryz.keyTypeBlk : Tryz.prog.keyType 211 = true:=by kernel_rfl
theorem Tryz.cellsBlk : Tryz.prog.cellsOf 211 = 256:=by kernel_rfl
theorem Tryz.cellsU16 : Tryz.prog.cellsOf 151 = 1:=by kernel_rfl
theorem mapM_some {α β : Type} (f : α -> Option β) (g : α -> β) : ∀ (l : List α),(∀ x ∈ l,f x = some (g x)) -> l.mapM f = some (l.map g)
 | [],_=>rfl
 | x :: l,h=>by
  rw [List.mapM_cons,h x (by simp),mapM_some f g l (fun y hy=>h y (by simp [hy]))]
  rfl
def key (b : List Nat) : Lit:=.string (keyBytes (b.map fun n : Nat=>Lit.int .u16 (n : Int)))
theorem range_map (b : List Nat) : ((List.range b.length).map fun i=>[Lit.int .u16 ((b.getD i 0 : Nat) : Int)]).flatten = b.map fun n : Nat=>Lit.int .u16 (n : Int):=by
 have : (List.range b.length).map (fun i=>[Lit.int .u16 ((b.getD i 0 : Nat) : Int)]) = b.map fun n : Nat=>[Lit.int .u16 (n : Int)]:=by
  apply List.ext_getElem?
  intro i
  by_cases h : i < b.length
  ·simp [h]
  ·simp [h]
 rw [this];clear this;induction b with
 | nil=>rfl
 | cons x b ih=>simp [ih]
theorem key_of {b : List Nat} (h : BlkOk b) : keyOf Tryz.prog 211 (.agg (u16s b).toArray) = some (key b):=by
 obtain ⟨n,hn⟩ : ∃ n,Tryz.prog.types.size = n + 1:=⟨Tryz.prog.types.size - 1,(Nat.sub_add_cancel (Nat.lt_of_le_of_lt (Nat.zero_le _) Tryz.rowBlk)).symm⟩
 have hf : (Value.agg (u16s b).toArray).formed Tryz.prog 211 = true:=by simp [Value.formed,Tryz.underlying211,Tryz.cellsBlk,u16s,h.1]
 unfold keyOf;simp only [Tryz.underlying211,Tryz.keyTypeBlk,hf,Bool.and_self,if_true,Value.cells]
 rw [hn];unfold Program.keyLits;simp only [Tryz.underlying211,Tryz.cellsBlk,Tryz.cellsU16,u16s_len,h.1,if_true]
 rw [mapM_some _ (fun i=>[Lit.int .u16 ((b.getD i 0 : Nat) : Int)])]
 ·have:=range_map b
  rw [h.1] at this;simp only [Option.map_some,this]; rfl
 ·intro i hi
  have hi' : i < b.length:=by rw [h.1]; simpa using hi
  have e : ((u16s b).drop (i * 1)).take 1 = [.int .u16 b[i]]:=by
   rw [Nat.mul_one,List.drop_eq_getElem_cons (by rw [u16s_len]; exact hi')]
   simp [u16s]
  rw [e];unfold Program.keyLits;have hb:=h.2 b[i] (List.getElem_mem hi')
  simp only [Tryz.underlying151]
  have hw : (Lit.int .u16 (b[i] : Int)).wf = true:=wf_u16 _ hb
  simp [hw,hi']
theorem key_inj {a b : List Nat} (ha : BlkOk a) (hb : BlkOk b) (h : key a = key b) : a = b:=by
 have:=Tryz.lawBlk.inj (key_of ha) (by rw [h]; exact key_of hb)
 simp at this
 exact u16s_inj this
structure MapOk (D : DataW Unit) (bl : List (List Nat)) : Prop where
 isMap : IsMap D
 no : ∀ b,BlkOk b -> b ∉ bl -> Maps.has D (key b) = false
 yes : ∀ (i : Nat) (b : List Nat),bl[i]? = some b -> Maps.has D (key b) = true ∧ D.atKey (key b) (.lit (.int .u16 0)) = .lit (.int .u16 i)
theorem MapOk.nil : MapOk (.map []) []:=⟨Maps.isMap_empty,fun _ _ _=>rfl,fun i b h=>by simp at h⟩
theorem MapOk.snoc {D : DataW Unit} {bl : List (List Nat)} (h : MapOk D bl) (ok : ∀ b ∈ bl,BlkOk b) {b : List Nat} (hb : BlkOk b) (hn : b ∉ bl) : MapOk (D.put (key b) (.lit (.int .u16 bl.length))) (bl ++ [b]):=by
 have hk:=Tryz.lawBlk.key (key_of hb)
 refine ⟨h.isMap.put _ _,fun c hc hcn=>?_,fun i c hi=>?_⟩
 ·have h1 : c ∉ bl:=fun e=>hcn (by simp [e])
  have h2 : c ≠ b:=fun e=>hcn (by simp [e])
  rw [Maps.has_put_other (fun e=>h2 (key_inj hc hb e))]
  exact h.no c hc h1
 ·by_cases e : i < bl.length
  ·rw [List.getElem?_append_left e] at hi;have hm : c ∈ bl:=List.mem_of_getElem? hi
   have h2 : key c ≠ key b:=fun e=>hn (by rw [<- key_inj (ok c hm) hb e]; exact hm)
   rw [Maps.has_put_other h2,Maps.atKey_put_other h2];exact h.yes i c hi
  ·rw [List.getElem?_append_right (by omega)] at hi;have e2 : i = bl.length:=by
    have:=(List.getElem?_eq_some_iff.1 hi).1
    simp at this; omega
   subst e2;simp at hi; subst hi
   exact ⟨Maps.has_put_same h.isMap hk _,Maps.atKey_put_same h.isMap hk _ _⟩
def blkN (num : Int -> Nat) (i : Nat) : List Nat:=(List.range 256).map fun j : Nat=>num (256 * (i : Int) + (j : Int))
theorem blkN_ok (num : Int -> Nat) (i : Nat) (h : ∀ r,num r < 65536) : BlkOk (blkN num i):=by
 refine ⟨by simp [blkN],fun x hx=>?_⟩
 simp only [blkN,List.mem_map] at hx
 obtain ⟨j,_,rfl⟩:=hx
 exact h _
theorem blk_cells {c : Array Value} {num : Int -> Nat} {i : Nat} (hs : c.size = 256) (hc : ∀ j,j < 256 -> c[j]? = some (blkF num (256 * (i : Int)) j)) : c = (u16s (blkN num i)).toArray:=by
 apply Array.ext_getElem?
 intro j
 by_cases hj : j < 256
 ·rw [hc j hj]; simp [u16s,blkN,blkF,hj]
 ·rw [Array.getElem?_eq_none (by omega),Array.getElem?_eq_none (by simp [u16s,blkN]; omega)]
structure LaidTo (num : Int -> Nat) (k : Nat) (bl : List (List Nat)) (pl : List Nat) : Prop where
 len : pl.length = k
 at' : ∀ i p,pl[i]? = some p -> bl[p]? = some (blkN num i)
 nodup : bl.Nodup
 used : ∀ b ∈ bl,∃ i,i < k ∧ b = blkN num i
 most : bl.length <= k
theorem LaidTo.nil (num : Int -> Nat) : LaidTo num 0 [] []:=⟨rfl,fun i p h=>by simp at h,List.nodup_nil,fun b h=>by simp at h,Nat.le_refl _⟩
theorem LaidTo.old {num : Int -> Nat} {k : Nat} {bl : List (List Nat)} {pl : List Nat} (h : LaidTo num k bl pl) {p : Nat} (hp : bl[p]? = some (blkN num k)) : LaidTo num (k + 1) bl (pl ++ [p]):=by
 refine ⟨by simp [h.len],fun i q hq=>?_,h.nodup,fun b hb=>?_,by have:=h.most; omega⟩
 ·by_cases e : i < pl.length
  ·rw [List.getElem?_append_left e] at hq; exact h.at' i q hq
  ·have : i = k:=by have:=(List.getElem?_eq_some_iff.1 hq).1; simp [h.len] at this e; omega
   subst this;rw [List.getElem?_append_right (by omega),h.len] at hq;simp at hq; subst hq; exact hp
 ·obtain ⟨i,h1,h2⟩:=h.used b hb; exact ⟨i,by omega,h2⟩
theorem LaidTo.new {num : Int -> Nat} {k : Nat} {bl : List (List Nat)} {pl : List Nat} (h : LaidTo num k bl pl) (hn : blkN num k ∉ bl) : LaidTo num (k + 1) (bl ++ [blkN num k]) (pl ++ [bl.length]):=by
 refine ⟨by simp [h.len],fun i q hq=>?_,?_,fun b hb=>?_,by have:=h.most; simp; omega⟩
 ·by_cases e : i < pl.length
  ·rw [List.getElem?_append_left e] at hq;have:=h.at' i q hq
   rw [List.getElem?_append_left (List.getElem?_eq_some_iff.1 this).1]; exact this
  ·have : i = k:=by have:=(List.getElem?_eq_some_iff.1 hq).1; simp [h.len] at this e; omega
   subst this;rw [List.getElem?_append_right (by omega),h.len] at hq;simp at hq; subst hq; simp
 ·rw [List.nodup_append];refine ⟨h.nodup,by simp,fun a ha b hb e=>?_⟩
  simp at hb; subst hb; subst e; exact hn ha
 ·simp at hb
  rcases hb with hb | rfl
  ·obtain ⟨i,h1,h2⟩:=h.used b hb; exact ⟨i,by omega,h2⟩
  ·exact ⟨k,by omega,rfl⟩
end Go.Proofs.YtkhipgcgcbhjoaaGreat.Uc
namespace Go.Proofs.YtkhipgcgcbhjoaaGreat.Uc
open Go.RowKit
open Go.Maps (Keyed IsMap)
theorem RowsIn.head {w : World} {v : Value} {x : SRow Nat} {l : List (SRow Nat)} (h : RowsIn w v (x :: l)) : ∃ g off cap,v = .slice (some ⟨g,off,none⟩) (l.length + 1) cap ∧ w.cell? ⟨g,off + 1,none⟩ = some (.int .i32 x.t) ∧
 (cap = 1 -> RowsIn w (.slice (some ⟨g,off,none⟩) l.length 0) l) ∧ (¬ cap = 1 -> RowsIn w (.slice (some ⟨g,off + 3,none⟩) l.length (cap - 1)) l):=by
 rcases h with ⟨h,_⟩ | ⟨g,off,cap,rfl,hcap,hlt,hc⟩
 ·simp at h
 ·simp only [List.length_cons] at hcap
  refine ⟨g,off,cap,by simp,by have:=(hc 0 (by simp)).2.1; simp only [Nat.zero_mul,Nat.add_zero] at this; exact this,fun e=>.inl ⟨List.eq_nil_of_length_eq_zero (by omega),_,_,by rw [show l.length = 0 by omega]⟩,fun e=>.inr ⟨g,off + 3,cap - 1,rfl,by omega,hlt,fun j hj=>?_⟩⟩
  have:=hc (j + 1) (by simp; omega)
  have e1 : off + 3 + j * 3 = off + (j + 1) * 3:=by omega
  rw [e1]; simpa using this
def lenOf : Value -> Nat | .slice _ n _=>n | _=>0
structure Left (w : World) (p : Nat) (l : List (SRow Nat)) (b : Int) (rv : Value) (d : Nat) : Prop where
 rows : RowsIn w rv (l.drop d)
 own : rv.ownBlock ≠ some p
 gone : ∀ x ∈ l.take d,x.t < b
theorem Left.mono {w : World} {p : Nat} {l : List (SRow Nat)} {b b' : Int} {rv : Value} {d : Nat} (h : Left w p l b rv d) (hb : b <= b') : Left w p l b' rv d :=
 ⟨h.rows,h.own,fun x hx=>by have:=h.gone x hx; omega⟩
theorem take_more {α : Type} {l r : List α} {d : Nat} {x : α} (h : l.drop d = x :: r) : l.take (d + 1) = l.take d ++ [x] ∧ l.drop (d + 1) = r:=by
 have hlt : d < l.length:=by
  rcases Nat.lt_or_ge d l.length with h1 | h1
  ·exact h1
  ·rw [List.drop_eq_nil_of_le h1] at h; simp at h
 rw [List.drop_eq_getElem_cons hlt] at h;obtain ⟨h1,h2⟩:=List.cons.inj h
 exact ⟨by rw [take_succ' l d hlt,h1],h2⟩
theorem Left.next {w : World} {p : Nat} {l r : List (SRow Nat)} {b : Int} {rv rv' : Value} {d : Nat} {x : SRow Nat} (h : Left w p l b rv d) (hd : l.drop d = x :: r) (hx : x.t < b) (hr : RowsIn w rv' r) (ho : rv'.ownBlock ≠ some p) : Left w p l b rv' (d + 1):=by
 obtain ⟨h1,h2⟩:=take_more hd
 refine ⟨by rw [h2]; exact hr,ho,fun y hy=>?_⟩
 rw [h1] at hy;simp at hy
 rcases hy with hy | rfl
 ·exact h.gone y hy
 ·exact hx
theorem rising_drop {α : Type} : ∀ (d : Nat) (l : List (SRow α)) (a : Int),Rising a l -> ∃ a',Rising a' (l.drop d)
 | 0,_,a,h=>⟨a,h⟩
 | _ + 1,[],a,h=>⟨a,h⟩
 | d + 1,x :: l,_,h=>rising_drop d l x.t h.2.2.2
theorem at_left (l : List (SRow Nat)) (d : Nat) (b r : Int) (h : ∀ x ∈ l.take d,x.t < b) (hr : b <= r) : at' 0 (l.drop d) r = at' 0 l r:=by
 conv=>rhs; rw [<- List.take_append_drop d l]
 rw [at_append,at_drop_none 0 (l.take d)];intro x hx
 have:=h x hx
 omega
theorem at_lt (l : List (SRow Nat)) (hf : Fine l) (r : Int) : at' 0 l r < 65536:=by
 have : ∀ (l : List (SRow Nat)) (z : Nat),z < 65536 -> (∀ x ∈ l,x.v < 65536) -> at' z l r < 65536:=by
  intro l
  induction l with
  | nil=>intro z hz _; exact hz
  | cons x l ih =>
   intro z hz h
   simp only [at',List.foldl_cons]
   apply ih
   ·split
    ·exact h x (by simp)
    ·exact hz
   ·exact fun y hy=>h y (by simp [hy])
 exact this l 0 (by omega) (fun x hx=>(hf x hx).2.2.2)
structure LayW (w : World) (p : Nat) (f : Nat -> Value) (k : Nat) (bl : List (List Nat)) (pl : List Nat) (bv : Value) (wr : World) : Prop where
 map : ∃ D,wr.ownsMap Tryz.prog 211 (plainElem (H:=Unit) Tryz.prog 151) w.heap.size bl.length D ∧ MapOk D bl
 own : wr.ownsRow (w.heap.size + 1) 211 256 bv bl.length (bl.flatMap u16s)
 row : wr.rowIs p 154 4354 (fun j=>if j = 0 then f 0 else if j = 1 then bv else if j - 2 < k then .int .u16 (pl.getD (j - 2) 0 : Nat) else f j)
 chg : Chg (· = p) w wr
 size : w.heap.size < wr.heap.size
 plt : p < w.heap.size
 ok : ∀ b ∈ bl,BlkOk b
section
variable {w : World} {p : Nat} {f : Nat -> Value} {k : Nat} {bl : List (List Nat)} {pl : List Nat} {bv : Value} {wr w' : World}
theorem LayW.step (h : LayW w p f k bl pl bv wr) (hb : Below wr.heap.size wr w') : LayW w p f k bl pl bv w':=by
 obtain ⟨D,hm,hd⟩:=h.map
 have hg : wr.grownBy w' none:=⟨hb.os,hb.tape,hb.output,hb.size,fun k hk _=>hb.block k hk⟩
 exact ⟨⟨D,hm.kept hg (by simp),hd⟩,h.own.kept hg (by cases h2 : bv.ownBlock <;> simp),h.row.of_block (hb.block p h.row.lt),h.chg.step hb,Nat.lt_of_lt_of_le h.size hb.size,h.plt,h.ok⟩
theorem LayW.rows (h : LayW w p f k bl pl bv wr) {v : Value} {l : List (SRow Nat)} (hr : RowsIn w v l) (hv : v.ownBlock ≠ some p) : RowsIn wr v l :=
 hr.step (fun k hk e=>h.chg.block k hk (fun e2=>hv (by rw [e,e2])))
theorem LayW.ownLt (h : LayW w p f k bl pl bv wr) {g : Nat} (hg : bv.ownBlock = some g) : w.heap.size + 1 <= g ∧ g < wr.heap.size:=h.own.lt g hg
theorem LayW.place (h : LayW w p f k bl pl bv wr) (hk : k < 4352) (hl : pl.length = k) (i : Nat) : LayW w p f (k + 1) bl (pl ++ [i]) bv (wr.setCell ⟨p,2 + k,none⟩ (.int .u16 (i : Int))):=by
 obtain ⟨D,hm,hd⟩:=h.map
 have hp:=h.plt
 refine ⟨⟨D,hm.setCell (by simp; omega) _,hd⟩,?_,(h.row.set (2 + k) _).congr (fun j hj=>?_),h.chg.setCell (fun _=>rfl) _,by have:=h.size; simpa [World.setCell] using this,hp,h.ok⟩
 ·refine ⟨h.own.1,?_⟩
  rcases h.own.2 with h1 | ⟨g,cap,cur,e,h2,h3,h4⟩
  ·exact .inl h1
  ·exact .inr ⟨g,cap,cur,e,h2,by rw [Below.heap_setCell _ _ _ _ (by simp; omega)]; exact h3,h4⟩
 ·by_cases e : j = 2 + k
  ·subst e;rw [if_pos rfl,if_neg (by omega),if_neg (by omega),if_pos (by omega)];have e2 : 2 + k - 2 = pl.length:=by omega
   rw [e2]; simp
  ·rw [if_neg e];by_cases e0 : j = 0
   ·simp [e0]
   ·by_cases e1 : j = 1
    ·simp [e1]
    ·rw [if_neg e0,if_neg e1,if_neg e0,if_neg e1];by_cases e2 : j - 2 < k
     ·rw [if_pos e2,if_pos (by omega)];simp [List.getD_eq_getElem?_getD,List.getElem?_append_left (show j - 2 < pl.length by omega)]
     ·rw [if_neg e2,if_neg (by omega)]
theorem lay_cut {l : List (SRow Nat)} {rv : Value} {d : Nat} (h : LayW w p f k bl pl bv wr) (ht : Left w p l (256 * (k : Int)) rv d) (a : Int) (hr : Rising a l) (hf : Fine l) (hl : l.length <= 5000) (hk : k < 4352) :
 Calls Tryz.prog 151 #[rv,.int .i32 ((k : Int) * 256)] wr fun e w'=>e = .returned (.agg (u16s (blkN (at' 0 l) k)).toArray) ∧ Below wr.heap.size wr w':=by
 obtain ⟨a',hr'⟩:=rising_drop d l a hr
 refine (cut_any (h.rows ht.rows ht.own) a' hr' (fun x hx=>hf x (List.mem_of_mem_drop hx)) (by rw [List.length_drop]; omega) ((k : Int) * 256) (by omega) (by omega)).mono ?_
 rintro e w' ⟨c,rfl,hs,hc,hb⟩;refine ⟨?_,hb⟩
 rw [<- blk_cells (i:=k) hs (fun j hj=>?_)]
 rw [hc j hj];unfold blkF;rw [at_left l d _ _ ht.gone (by omega),Int.mul_comm]
end
theorem foldl_set : ∀ (L : List Value) (n : Nat) (Z : Array Value),∀ i : Nat,((L.zipIdx n).foldl (fun cs x=>cs.setIfInBounds (0 + x.2) x.1) Z)[i]? = if n <= i ∧ i < n + L.length ∧ i < Z.size then L[i - n]? else Z[i]?
 | [],n,Z,i=>by simp; intro h1 h2; omega
 | x :: L,n,Z,i=>by
  rw [List.zipIdx_cons,List.foldl_cons,foldl_set L (n + 1) _ i];simp only [Nat.zero_add,Array.size_setIfInBounds,List.length_cons]
  by_cases h1 : n + 1 <= i ∧ i < n + 1 + L.length ∧ i < Z.size
  ·rw [if_pos h1,if_pos (by omega)];have : i - n = (i - (n + 1)) + 1:=by omega
   rw [this,List.getElem?_cons_succ]
  ·rw [if_neg h1,Array.getElem?_setIfInBounds];by_cases h2 : n = i
   ·subst h2;by_cases h3 : n < Z.size
    ·simp [h3]
    ·simp [h3]
   ·rw [if_neg h2,if_neg (by omega)]
theorem fill_same (A Z : Array Value) (h : A.size = Z.size) : A.zipIdx.foldl (fun cs x=>cs.setIfInBounds (0 + x.2) x.1) Z = A:=by
 apply Array.ext_getElem?
 intro i
 rw [<- Array.foldl_toList,Array.toList_zipIdx,foldl_set];by_cases hi : i < A.size
 ·rw [if_pos (by simp; omega)]; simp
 ·rw [if_neg (by simp; omega),Array.getElem?_eq_none (by omega),Array.getElem?_eq_none (by omega)]
theorem Tryz.info_blk3 : (Tryz.prog.info? 211).map (fun i=>(i.zero,i.size,i.bytes)) = some (some (.agg z256),256,512):=by kernel_rfl
theorem run_blk_slice (w : World) {b : List Nat} (h : BlkOk b) :
 (Instr.buildSlice 150 1 #[(0,.agg (u16s b).toArray)]).run Tryz.prog w = .ok (.slice (some ⟨w.heap.size,0,none⟩) 1 1) (w.alloc (.cells (u16s b).toArray 211)):=by
 obtain ⟨i0,hi,hz0,hz1,hz2⟩:=info_parts Tryz.info_blk3
 have hs : (u16s b).toArray.size = 256:=by simp [u16s,h.1]
 have hsz : ∀ w,(sizeOf 211).run Tryz.prog w = .ok 256 w:=fun w=>by simp [sizeOf,typeInfo,hi,hz1]
 have hz : ∀ w,(zeroValue 211).run Tryz.prog w = .ok (.agg z256) w:=z256_zero
 have hf : Instr.fill (fun i=>some (i * 256,256)) ((Array.range (1 * 256)).map (z256[· % z256.size]!)) [(0,.agg (u16s b).toArray)] = some (u16s b).toArray:=by
  unfold Instr.fill;simp only [Value.cells,hs,Array.size_map,Array.size_range]
  rw [if_neg (by simp)];unfold Instr.fill;have:=fill_same (u16s b).toArray ((Array.range (1 * 256)).map (z256[· % z256.size]!)) (by rw [hs]; simp)
  simpa using this
 simp only [Instr.buildSlice,Sem.run_bind,run_underlying Tryz.underlying150,Result.andThen_ok,hsz]
 simp only [Nat.one_mul,Nat.reducePow,Nat.reduceGT,if_false,Nat.reduceEqDiff,Sem.run_bind,hz,Result.andThen_ok,Sem.run_pure]
 simp only [Value.cells] at hf ⊢
 rw [Nat.one_mul] at hf;simp only [hf]
 rfl
theorem wp_blk_slice {o : Oper} {a : Act} {w : World} {K : Act -> World -> Prop} {Q : Exit -> Act -> World -> Prop} (x : Operand) (ho : o.op = .buildSlice 150 1 #[(0,x)]) {b : List Nat} (hb : BlkOk b) (hx : a.eval x = .agg (u16s b).toArray)
 (h : K (a.put o.dst (.slice (some ⟨w.heap.size,0,none⟩) 1 1)) (w.alloc (.cells (u16s b).toArray 211))) : o.wp Tryz.prog a w K Q:=by
 unfold Oper.wp execOp;simp only [ho,List.map_toArray,List.map_cons,List.map_nil,hx,Sem.run_bind,run_blk_slice w hb,Result.andThen_ok]
 exact h
theorem wp_blk_append {o : Oper} {a : Act} {w : World} {K : Act -> World -> Prop} {Q : Exit -> Act -> World -> Prop} (s x : Operand)
 (ho : o.op = .call { callee:=.builtin .append,args:=#[s,x],argTypes:=#[150,150] }) {B n : Nat} {v : Value} {xs : List Value} {b : List Nat} (hb : BlkOk b) (hs : a.eval s = v)
 (hx : a.eval x = .slice (some ⟨w.heap.size,0,none⟩) 1 1) (hown : w.ownsRow B 211 256 v n xs) (hn : n <= 5000) (hB : B <= w.heap.size)
 (h : ∀ v' w',w'.ownsRow B 211 256 v' (n + 1) (xs ++ u16s b) -> (w.alloc (.cells (u16s b).toArray 211)).grownBy w' v.ownBlock -> (v'.ownBlock = v.ownBlock ∨ v'.ownBlock = some (w.heap.size + 1)) -> K (a.put o.dst v') w') :
 o.wp Tryz.prog a (w.alloc (.cells (u16s b).toArray 211)) K Q:=by
 obtain ⟨i0,hi,hz0,hz1,hz2⟩:=info_parts Tryz.info_blk3
 have hl : (u16s b).length = 1 * 256:=by rw [u16s_len,hb.1]
 obtain ⟨v',w',hr,h2,h3,_,h5⟩:=run_append_own_at (P:=Tryz.prog) (w.alloc (.cells (u16s b).toArray 211)) B 150 o.type 211 i0 (.agg z256) 256 512 Tryz.underlying150 hi hz0 hz1 hz2 (by simp [Value.cells,z256]) (by decide) v n xs (hown.alloc _)
  ⟨w.heap.size,0,none⟩ 1 1 (u16s b) hl (fun j u hj=>by
   have e : (⟨w.heap.size,0,none⟩ : Addr).add j = ⟨w.heap.size,j,none⟩:=by unfold Addr.add; split <;> simp_all
   rw [e,cell_of_row _ w.heap.size j _ _ _ (heap_alloc_new w _)];simpa using hj) (fun u hu=>by
   simp only [u16s,List.mem_map] at hu
   obtain ⟨n,_,rfl⟩:=hu
   rfl) (by unfold maxLen; omega) (by omega) (by simp; omega)
 unfold Oper.wp execOp;simp only [ho,resolve,invoke,builtin,Sem.run_bind,Sem.run_pure,Result.andThen_ok,List.map_toArray,List.map_cons,List.map_nil,hs,hx,hr]
 exact h v' w' h2 h3 (h5.imp id (fun e=>by simpa using e))
theorem LayW.new {w : World} {p : Nat} {f : Nat -> Value} {k : Nat} {bl : List (List Nat)} {pl : List Nat} {bv v' : Value} {W w3 w5 : World} {b : List Nat} {D : DataW Unit} (h : LayW w p f k bl pl bv W) (hb : BlkOk b) (hn : b ∉ bl) (hD : MapOk D bl)
 (hown3 : w3.ownsMap Tryz.prog 211 (plainElem (H:=Unit) Tryz.prog 151) w.heap.size (bl.length + 1) (D.put (key b) (.lit (.int .u16 bl.length)))) (hg3 : W.grownBy w3 (some w.heap.size))
 (ho : w5.ownsRow (w.heap.size + 1) 211 256 v' (bl.length + 1) (bl.flatMap u16s ++ u16s b)) (hg5 : (w3.drew.alloc (.cells (u16s b).toArray 211)).grownBy w5 bv.ownBlock) (hloc : v'.ownBlock = bv.ownBlock ∨ v'.ownBlock = some (w3.heap.size + 1)) :
 LayW w p f k (bl ++ [b]) pl v' (w5.setCell ⟨p,1,none⟩ v'):=by
 have hp:=h.plt
 have hs3:=hg3.size
 have hsz:=h.size
 have hbv : ∀ g,bv.ownBlock = some g -> w.heap.size + 1 <= g:=fun g hg=>(h.ownLt hg).1
 have hv' : ∀ g,v'.ownBlock = some g -> w.heap.size + 1 <= g:=fun g hg=>by
  rcases hloc with e | e
  ·exact hbv g (by rw [<- e]; exact hg)
  ·rw [e] at hg; simp at hg; omega
 have g4':=(World.grownBy_alloc w3.drew (.cells (u16s b).toArray 211) bv.ownBlock).trans hg5
 have g4 : w3.grownBy w5 bv.ownBlock:=⟨g4'.os,g4'.tape,g4'.output,g4'.size,g4'.block⟩
 have blk5 : ∀ g,g < W.heap.size -> g ≠ w.heap.size -> bv.ownBlock ≠ some g -> w5.heap[g]? = W.heap[g]?:=fun g h1 h2 h3 =>
  (g4.block g (by omega) (fun e=>h3 e.symm)).trans (hg3.block g h1 (by simp; exact h2))
 have hr5:=h.row.of_block (blk5 p h.row.lt (by omega) (fun e=>by have:=hbv p e; omega))
 have hm5:=hown3.kept g4 (fun e=>by have:=hbv _ e.symm; omega)
 refine ⟨⟨_,by have:=hm5.setCell (a:=⟨p,1,none⟩) (by simp; omega) v'; rw [List.length_append]; exact this,hD.snoc h.ok hb hn⟩,?_,(hr5.set 1 v').congr (fun j _=>?_),?_,?_,hp,fun c hc=>?_⟩
 ·rw [List.flatMap_append,List.length_append];simp only [List.flatMap_cons,List.flatMap_nil,List.append_nil,List.length_cons,List.length_nil,Nat.zero_add]
  refine ⟨ho.1,?_⟩
  rcases ho.2 with h1 | ⟨g,cap,cur,e,h2,h3,h4⟩
  ·exact .inl h1
  ·exact .inr ⟨g,cap,cur,e,h2,by rw [Below.heap_setCell _ _ _ _ (by simp; omega)]; exact h3,h4⟩
 ·by_cases e0 : j = 0
  ·subst e0; rfl
  ·by_cases e1 : j = 1
   ·subst e1; rfl
   ·simp [e0,e1]
 ·have c3 : Chg (· = p) w w3:=h.chg.grown hg3 (fun k e hk=>by simp at e; omega)
  exact (c3.grown g4 (fun k e hk=>by have:=hbv k e; omega)).setCell (fun _=>rfl) v'
 ·have:=g4.size
  simp [World.setCell]; omega
 ·simp at hc
  rcases hc with hc | rfl
  ·exact h.ok c hc
  ·exact hb
end Go.Proofs.YtkhipgcgcbhjoaaGreat.Uc
