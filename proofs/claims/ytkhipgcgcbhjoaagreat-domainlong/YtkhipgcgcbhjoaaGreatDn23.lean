import Derived.Test.YtkhipgcgcbhjoaaGreatDn20
import Derived.Laws.AppendOwnNone
import Derived.Test.YtkhipgcgcbhjoaaGreatDn19
import Derived.Test.YtkhipgcgcbhjoaaGreatDn22
import Derived.Deep.OwnRows
import Derived.Shelf.Abstract
import Derived.Deep.RegionHeld3
import Derived.Laws.EntriesVeiled
set_option maxRecDepth 100000
set_option maxHeartbeats 8000000
namespace Go.Proofs.YtkhipgcgcbhjoaaGreat
namespace Ap
open Go.RowKit Od
theorem hr {p : Prop} (h : p) : Hid p:=h
theorem app32 {ops : Array Oper} {rest : List Oper} {o : Oper} {a : Act} {Q : Exit -> Act -> World -> Prop} (hgd : o.guard = none) (s x : Operand)
 (ho : o.op = .call { callee:=.builtin .append,args:=#[s,x],argTypes:=#[22,22] }) (W : World) (B : Nat) (v u : Value) (xs zs : List Int) (hs : a.eval s = v) (hx : a.eval x = u)
 (hown : W.ownsRow B 21 1 v xs.length (ivs .i32 xs)) (hz : Sl .i32 W u zs) (hn : xs.length + zs.length <= 1000000000) (hB : B <= W.heap.size)
 (h : ∀ v' w',w'.ownsRow B 21 1 v' (xs ++ zs).length (ivs .i32 (xs ++ zs)) -> Below B W w' -> (∀ k,k < W.heap.size -> v.ownBlock ≠ some k -> w'.heap[k]? = W.heap[k]?) -> wpList Tryz.prog ops Q rest (a.put o.dst v') w') :
 wpList Tryz.prog ops Q (o :: rest) a W:=by
 obtain ⟨i0,hi,hz0,hz1,hz2⟩:=info_parts Tryz.info_i32
 obtain ⟨ao,cap,rfl,hz⟩:=hz
 cases ao with
 | none =>
  obtain ⟨e1,e2⟩:=hz.none_ rfl
  have e3 : zs = []:=List.eq_nil_of_length_eq_zero e1
  subst e3 e2;refine wpList_append_own_none hgd s x 22 ho B 21 i0 1 Tryz.underlying22 hi v xs.length (ivs .i32 xs) hs hown hx ?_
  exact h v W (by rw [List.append_nil]; exact hown) (Below.refl _ _) (fun _ _ _=>rfl)
 | some ad =>
  refine wpList_append_own_at _ hgd s x 22 ho B 21 i0 (.int .i32 0) 1 4 Tryz.underlying22 hi hz0 hz1 hz2 rfl (by decide) v xs.length (ivs .i32 xs) hs hown ad zs.length cap (ivs .i32 zs) hx (by rw [ivs_len]; omega)
   (fun j u hj=>?_) (fun u hu=>by simp [ivs] at hu; obtain ⟨z,_,rfl⟩:=hu; rfl) (by unfold maxLen; omega) (by omega) hB (fun v' w' h1 h2 h3 _=>h v' w' ?_ (below_of_grown h2 B hB (fun k e=>(hown.lt k e).1)) (fun k hk hne=>h2.block k hk (fun e=>hne e.symm)))
  ·have hlt : j < zs.length:=by
    have:=(List.getElem?_eq_some_iff.1 hj).1
    rwa [ivs_len] at this
   obtain ⟨b,off,e,hb,hc⟩:=hz.at_ j hlt
   simp at e
   subst e;have e2 : (⟨b,off,none⟩ : Addr).add j = ⟨b,off + j,none⟩:=by unfold Addr.add; split <;> simp_all
   rw [e2,hc];simp [ivs,hlt] at hj
   rw [hj]
  ·have e : ivs .i32 xs ++ ivs .i32 zs = ivs .i32 (xs ++ zs):=by simp [ivs]
   rw [List.length_append,<- e]; exact h1
end Ap
end Go.Proofs.YtkhipgcgcbhjoaaGreat
namespace Go.Proofs.YtkhipgcgcbhjoaaGreat
namespace Ma
open Go.RowKit Od Pr Ha Nf
theorem hr {p : Prop} (h : p) : Hid p:=h
theorem stop_any (r : Int) (w : World) : Calls Tryz.prog 209 #[.int .i32 r] w fun e w'=>e = .returned (.int .i32 (stP r)) ∧ Below w.heap.size w w':=by
 unfold stP;by_cases h : r = 12290
 ·rw [if_pos h];have q : (r == 12290) = true:=beq_iff_eq.2 h
  clear h;go_enter Tryz.func209,Tryz.ntmps209
  go_wp2_with fail;go_ret;exact ⟨rfl,Below.refl _ _⟩
 ·rw [if_neg h];have q : (r == 12290) = false:=beq_eq_false_iff_ne.2 h
  clear h;go_enter Tryz.func209,Tryz.ntmps209
  go_wp2_with fail;go_ret;exact ⟨rfl,Below.refl _ _⟩
structure Trn (g : Nat) (t : Int -> Int) : Prop where
 enter : ∀ args w,(callFunc g args).run Tryz.prog w = .ok (.enter g args) w
 call : ∀ W x,I32 x -> Calls Tryz.prog g #[.int .i32 x] W fun e w'=>e = .returned (.int .i32 (t x)) ∧ Below W.heap.size W w'
theorem trn_low : Trn 207 (fun x=>lowP x spanT):=⟨enters_of Tryz.func207 (by kernel_rfl) rfl,fun W x h=>low_any x W h⟩
theorem trn_wid : Trn 208 widP:=⟨enters_of Tryz.func208 (by kernel_rfl) rfl,fun W x h=>wid_any x W h⟩
theorem trn_stop : Trn 209 stP:=⟨enters_of Tryz.func209 (by kernel_rfl) rfl,fun W x _=>stop_any x W⟩
def tyF : Nat:=249
theorem each_any (g : Nat) (w : World) : Calls Tryz.prog 206 #[.func (.func g) #[] #[]] w fun e w'=>∃ p,e = .returned (.func (.func 263) #[] #[.pointer (some ⟨p,0,none⟩)]) ∧ Bx w' p (.func (.func g) #[] #[]) tyF ∧ w.heap.size <= p ∧ Below w.heap.size w w':=by
 go_enter Tryz.func206,Tryz.ntmps206
 go_wp2_with fail;go_ret;exact ⟨_,rfl,Bx.new _ _ _,Nat.le_refl _,(Ok.start w).alloc.1⟩
theorem made32 (w : World) (n : Nat) : Blk (w.alloc (.cells (madeCells #[.int .i32 0] n) 21)) w.heap.size (List.replicate n 0) []:=by
 have e : madeCells #[.int .i32 0] n = (i32s (List.replicate n 0) ++ []).toArray:=by
  apply Array.ext
  ·simp [madeCells,i32s]
  ·intro i h1 h2
   simp [madeCells,i32s,Nat.mod_one]
 rw [e];exact heap_new w _
theorem ok_set {B : Nat} {W0 w : World} (h : Ok B W0 w) (v i : Nat) (hv : B <= v) (x : Value) : Ok B W0 (w.setCell ⟨v,i,none⟩ x):=⟨h.1.setCell (p:=⟨v,i,none⟩) hv x,by simpa [World.setCell] using h.2⟩
theorem turn_set (t : Int -> Int) (X : List Int) (k : Nat) (h : k < X.length) : ((X.take k).map t ++ List.replicate (X.length - k) 0).set k (t X[k]) = (X.take (k + 1)).map t ++ List.replicate (X.length - (k + 1)) 0:=by
 have e1 : ((X.take k).map t).length = k:=by simp; omega
 have e2 : X.length - k = (X.length - (k + 1)) + 1:=by omega
 rw [List.take_succ_eq_append_getElem h,List.map_append,e2,List.replicate_succ,List.set_append_right _ _ (by omega),e1,Nat.sub_self];simp
theorem each1_any {w : World} {p g : Nat} {t : Int -> Int} (hT : Trn g t) (hp : Bx w p (.func (.func g) #[] #[]) tyF) {v : Value} {X : List Int} (hS : Sl .i32 w v X) (hI : ∀ x ∈ X,I32 x) (hn : X.length <= 1000000) :
 Calls Tryz.prog 263 #[v,.pointer (some ⟨p,0,none⟩)] w fun e w'=>∃ v',e = .returned v' ∧ Sl .i32 w' v' (X.map t) ∧ Below w.heap.size w w':=by
 obtain ⟨ao,cap,rfl,hS⟩:=hS
 have HS:=hr hS
 have HI:=hr hI
 have HP:=hr hp
 have HT:=hr hT
 have hen:=hT.enter
 have hmk : ∀ w,(Instr.makeSlice 22 (.int .i64 (X.length : Int)) (.int .i64 (X.length : Int))).run Tryz.prog w = .ok (.slice (some ⟨w.heap.size,0,none⟩) X.length X.length) (w.alloc (.cells (madeCells #[.int .i32 0] X.length) 21)):=fun w=>run_make_row' 22 21 (.int .i32 0) 4 Tryz.underlying22 Od.Tryz.info_i32 rfl .i64 .i64 X.length (by omega) (by omega) w
 have HB0:=hr (made32 w X.length);have HO:=hr ((Ok.start w).alloc (o:=.cells (madeCells #[.int .i32 0] X.length) 21))
 generalize hlen : X.length = n at *;have HLn:=hr hlen
 clear hlen hS hI hp hT;go_enter Tryz.func263,Tryz.ntmps263
 go_wp2_with fail;go_loopg [12] n (fun gg vi wr=>∃ k : Nat,vi = .int .i64 k ∧ k <= n ∧ gg = n - k ∧ Hid (Blk wr w.heap.size ((X.take k).map t ++ List.replicate (n - k) 0) [] ∧ Ok w.heap.size w wr))
 case atStart=>exact ⟨0,rfl,Nat.zero_le _,rfl,by simpa using HB0.out,HO.out⟩
 case round =>
  obtain ⟨k,rfl,hk,hg,H⟩:=hrel
  have HG:=hr hg
  clear hg HB0 HO;by_cases hlt : k < n
  ·have hlx : k < X.length:=by have:=HLn.out; omega
   obtain ⟨b,off,rfl,hb,c1⟩:=HS.out.at_ k hlx
   have d1:=(H.out.2.1.cell (p:=⟨b,off + k,none⟩) hb).trans c1
   have p1:=(HP.out.step H.out.2.1).cell
   have HV:=hr (HT.out.call wr X[k] (HI.out _ (List.getElem_mem hlx)));have HE : Hid (((X.take k).map t ++ List.replicate (n - k) 0).set k (t X[k]) = (X.take (k + 1)).map t ++ List.replicate (n - (k + 1)) 0):=by show _ = _; rw [<- HLn.out]; exact turn_set t X k hlx
   have hll : k < ((X.take k).map t ++ List.replicate (n - k) 0).length:=by simp; omega
   have z1 : (k : Int) < (n : Int):=by omega
   clear c1;generalize X[k] = x at *;generalize t x = y at *;go_wp2_with fail;refine HV.out.mono ?_;rintro e w' ⟨rfl,hb'⟩;have HN:=hr (And.intro (H.out.1.step hb') (H.out.2.step hb'))
   have t1:=HN.out.1.frozen k
   obtain ⟨u0,hu0⟩ : ∃ u,((X.take k).map t ++ List.replicate (n - k) 0)[k]? = some u:=⟨_,List.getElem?_eq_getElem hll⟩
   have t2:=HN.out.1.cell k u0 hu0
   clear hb' HV hu0;go_wp2_with fail;go_roundg (n - (k + 1))
   case measure=>rw [HG.out]; omega
   case rel=>exact ⟨k + 1,by go_num,by omega,rfl,by rw [<- HE.out]; exact HN.out.1.set k y hll,ok_set HN.out.2 _ k (Nat.le_refl _) _⟩
  ·have e : k = X.length:=by have:=HLn.out; omega
   have z1 : ¬ (k : Int) < (n : Int):=by omega
   have HN : Hid (Blk wr w.heap.size (X.map t) []):=by
    have:=H.out.1
    rw [e,HLn.out,Nat.sub_self,List.replicate_zero,List.append_nil,<- HLn.out,List.take_length] at this;exact this
   have hl2 : n = (X.map t).length:=by rw [List.length_map,HLn.out]
   have HL2:=hr hl2
   clear hl2;go_wp2_with fail;go_ret;refine ⟨_,rfl,⟨some ⟨w.heap.size,0,none⟩,n,by rw [<- HL2.out]; rfl,by rw [<- HL2.out]; exact Nat.le_refl _,fun e=>(by cases e),fun j hj=>⟨w.heap.size,0,rfl,HN.out.lt,?_⟩⟩,H.out.2.1⟩
   rw [Nat.zero_add];exact HN.out.cell j _ (List.getElem?_eq_getElem hj)
structure Mp (w : World) (m f b p d u s : Nat) : Prop where
 bx : Bx w m (.pointer (some ⟨f,0,none⟩)) 182
 fm : Fm w f b p d u s
theorem Mp.step {w w' : World} {m f b p d u s : Nat} (h : Mp w m f b p d u s) (hb : Below w.heap.size w w') : Mp w' m f b p d u s:=⟨h.bx.step hb,h.fm.step hb⟩
theorem mnew_any {w : World} {b p d u s : Nat} (hb : Bk w b) (hp : PW w p d u s allP 395) :
 Calls Tryz.prog 73 #[.pointer (some ⟨b,0,none⟩),.pointer (some ⟨p,0,none⟩)] w fun e w'=>∃ m f,e = .returned (.pointer (some ⟨m,0,none⟩)) ∧ Mp w' m f b p d u s ∧ Below w.heap.size w w':=by
 have HN:=hr (new_any' hb hp);have HO:=hr (Ok.start w);clear hb hp;go_enter Tryz.func73,Tryz.ntmps73
 go_wp2_with fail;refine HN.out.mono ?_;rintro e w1 ⟨f,rfl,hF,hb⟩;have HF:=hr hF
 replace HO:=hr (HO.out.step hb);clear hF hb HN;go_wp2_with fail;go_ret;exact ⟨_,f,rfl,⟨Bx.new _ _ _,HF.out.step (Ok.start w1).alloc.1⟩,HO.out.alloc.1⟩
def stV (p : Nat) : Value:=.func (.func 263) #[] #[.pointer (some ⟨p,0,none⟩)]
def Stp (w : World) (f : Nat) (v5 : Value) (W : World) : Prop:=∃ q p1 p2 p3,v5 = .pointer (some ⟨q,0,none⟩) ∧ W.heap[q]? = some (.cells #[stV p1,stV p2,.func (.func 48) #[.pointer (some ⟨f,0,none⟩)] #[],stV p3] 250) ∧
 Bx W p1 (.func (.func 207) #[] #[]) tyF ∧ Bx W p2 (.func (.func 208) #[] #[]) tyF ∧ Bx W p3 (.func (.func 209) #[] #[]) tyF ∧ Ok w.heap.size w W
def Bxs (W : World) (L : List (Nat × Nat)) : Prop:=∀ x ∈ L,Bx W x.1 (.func (.func x.2) #[] #[]) tyF
theorem Bxs.add {W W' : World} {L : List (Nat × Nat)} {p g : Nat} (h : Bxs W L) (hx : Bx W' p (.func (.func g) #[] #[]) tyF) (hb : Below W.heap.size W W') : Bxs W' ((p,g) :: L):=fun x hx'=>by
 rcases List.mem_cons.1 hx' with rfl | hx'
 ·exact hx
 ·exact (h x hx').step hb
theorem Bxs.step {W W' : World} {L : List (Nat × Nat)} (h : Bxs W L) (hb : Below W.heap.size W W') : Bxs W' L:=fun x hx=>(h x hx).step hb
def Nf4 (W : World) (q : Nat) : Prop:=W.heap[q]? = some (.cells #[.nilFunc,.nilFunc,.nilFunc,.nilFunc] 250)
theorem Nf4.lt {W : World} {q : Nat} (h : Nf4 W q) : q < W.heap.size:=(Array.getElem?_eq_some_iff.1 h).1
theorem Nf4.step {W W' : World} {q : Nat} (h : Nf4 W q) (hb : Below W.heap.size W W') : Nf4 W' q:=(hb.block q h.lt).trans h
theorem Nf4.cells {W : World} {q : Nat} (h : Nf4 W q) : W.cell? ⟨q,0,none⟩ = some .nilFunc ∧ W.cell? ⟨q,1,none⟩ = some .nilFunc ∧ W.cell? ⟨q,2,none⟩ = some .nilFunc ∧ W.cell? ⟨q,3,none⟩ = some .nilFunc:=by
 unfold World.cell?
 rw [h];exact ⟨rfl,rfl,rfl,rfl⟩
theorem Nf4.frozen {W : World} {q : Nat} (h : Nf4 W q) (i : Nat) : W.frozen? ⟨q,i,none⟩ = false:=by
 have h' : W.heap[q]? = _:=h
 simp [World.frozen?,h']
theorem heap_set {w : World} {v : Nat} {cs : Array Value} {t : TypeId} (h : w.heap[v]? = some (.cells cs t)) (i : Nat) (x : Value) : (w.setCell ⟨v,i,none⟩ x).heap[v]? = some (.cells (cs.setIfInBounds i x) t):=by
 show (w.heap.modify v _)[v]? = _
 rw [Array.getElem?_modify];simp [h]
structure St (w : World) (m f b p d u s : Nat) (W : World) (L : List (Nat × Nat)) : Prop where
 ok : Ok w.heap.size w W
 mp : Mp W m f b p d u s
 bx : Bxs W L
theorem St.call {w W W' : World} {m f b p d u s pp g : Nat} {L : List (Nat × Nat)} (h : St w m f b p d u s W L) (hx : Bx W' pp (.func (.func g) #[] #[]) tyF) (hb : Below W.heap.size W W') : St w m f b p d u s W' ((pp,g) :: L):=⟨h.ok.step hb,h.mp.step hb,h.bx.add hx hb⟩
theorem St.alloc {w W : World} {m f b p d u s : Nat} {L : List (Nat × Nat)} (h : St w m f b p d u s W L) (o : Obj) : St w m f b p d u s (W.alloc o) L:=⟨h.ok.alloc,h.mp.step (Ok.start W).alloc.1,h.bx.step (Ok.start W).alloc.1⟩
theorem St.cell {w W : World} {m f b p d u s : Nat} {L : List (Nat × Nat)} (h : St w m f b p d u s W L) : W.cell? ⟨m,0,none⟩ = some (.pointer (some ⟨f,0,none⟩)):=h.mp.bx.cell
theorem Mp.cell {W : World} {m f b p d u s : Nat} (h : Mp W m f b p d u s) : W.cell? ⟨m,0,none⟩ = some (.pointer (some ⟨f,0,none⟩)):=h.bx.cell
structure Em (w W : World) (q : Nat) : Prop where
 nf : Nf4 W q
 lo : w.heap.size <= q
theorem Em.new {w W W' : World} {m f b p d u s : Nat} {L : List (Nat × Nat)} (h : St w m f b p d u s W L) (hb : Below (W.alloc (.cells #[.nilFunc,.nilFunc,.nilFunc,.nilFunc] 250)).heap.size (W.alloc (.cells #[.nilFunc,.nilFunc,.nilFunc,.nilFunc] 250)) W') : Em w W' W.heap.size:=⟨Nf4.step (heap_new _ _) hb,h.ok.2⟩
theorem Em.step {w W W' : World} {q : Nat} (h : Em w W q) (hb : Below W.heap.size W W') : Em w W' q:=⟨h.nf.step hb,h.lo⟩
theorem set4_ok {w W : World} {q : Nat} (h : Ok w.heap.size w W) (hq : Em w W q) (x y z t : Value) : Ok w.heap.size w ((((W.setCell ⟨q,0,none⟩ x).setCell ⟨q,1,none⟩ y).setCell ⟨q,2,none⟩ z).setCell ⟨q,3,none⟩ t) :=
 ok_set (ok_set (ok_set (ok_set h q 0 hq.lo x) q 1 hq.lo y) q 2 hq.lo z) q 3 hq.lo t
theorem set4_cell {w W : World} {m f b p d u s q : Nat} (hM : Mp w m f b p d u s) (h : Ok w.heap.size w W) (hq : Em w W q) (x y z t : Value) : ((((W.setCell ⟨q,0,none⟩ x).setCell ⟨q,1,none⟩ y).setCell ⟨q,2,none⟩ z).setCell ⟨q,3,none⟩ t).cell? ⟨m,0,none⟩ = some (.pointer (some ⟨f,0,none⟩)) :=
 (hM.step (set4_ok h hq x y z t).1).cell
theorem set4_heap {w W : World} {q : Nat} (hq : Em w W q) (x y z t : Value) : ((((W.setCell ⟨q,0,none⟩ x).setCell ⟨q,1,none⟩ y).setCell ⟨q,2,none⟩ z).setCell ⟨q,3,none⟩ t).heap[q]? = some (.cells #[x,y,z,t] 250) :=
 heap_set (heap_set (heap_set (heap_set hq.nf 0 x) 1 y) 2 z) 3 t
theorem set4_bxs {w W : World} {q : Nat} {L : List (Nat × Nat)} (hq : Em w W q) (h : Bxs W L) (x y z t : Value) : Bxs ((((W.setCell ⟨q,0,none⟩ x).setCell ⟨q,1,none⟩ y).setCell ⟨q,2,none⟩ z).setCell ⟨q,3,none⟩ t) L:=fun g hg=>by
 have h1:=h g hg
 have hne : g.1 ≠ q:=fun e=>by
  have h2 : W.heap[q]? = _:=hq.nf
  rw [<- e,h1] at h2;simp at h2
 exact (Below.heap_setCell _ _ _ _ hne).trans ((Below.heap_setCell _ _ _ _ hne).trans ((Below.heap_setCell _ _ _ _ hne).trans ((Below.heap_setCell _ _ _ _ hne).trans h1)))
theorem stp_mk {w W : World} {f q p1 p2 p3 : Nat} {L : List (Nat × Nat)} (hh : W.heap[q]? = some (.cells #[stV p1,stV p2,.func (.func 48) #[.pointer (some ⟨f,0,none⟩)] #[],stV p3] 250)) (hB : Bxs W L) (hok : Ok w.heap.size w W)
 (h1 : (p1,207) ∈ L) (h2 : (p2,208) ∈ L) (h3 : (p3,209) ∈ L) : Stp w f (.pointer (some ⟨q,0,none⟩)) W:=by
 have e1 : Bx W p1 (.func (.func 207) #[] #[]) tyF:=hB (p1,207) h1
 have e2 : Bx W p2 (.func (.func 208) #[] #[]) tyF:=hB (p2,208) h2
 have e3 : Bx W p3 (.func (.func 209) #[] #[]) tyF:=hB (p3,209) h3
 exact ⟨q,p1,p2,p3,rfl,hh,e1,e2,e3,hok⟩
theorem stp_early {w W : World} {m f b p d u s q p1 p2 p3 : Nat} {L : List (Nat × Nat)} (h : St w m f b p d u s W L) (hq : Em w W q) (h1 : (p1,207) ∈ L) (h2 : (p2,208) ∈ L) (h3 : (p3,209) ∈ L) :
 Stp w f (.pointer (some ⟨q,0,none⟩)) ((((W.setCell ⟨q,0,none⟩ (.func (.func 263) #[] #[.pointer (some ⟨p1,0,none⟩)])).setCell ⟨q,1,none⟩ (.func (.func 263) #[] #[.pointer (some ⟨p2,0,none⟩)])).setCell ⟨q,2,none⟩ (.func (.func 48) #[.pointer (some ⟨f,0,none⟩)] #[])).setCell ⟨q,3,none⟩ (.func (.func 263) #[] #[.pointer (some ⟨p3,0,none⟩)])) :=
 stp_mk (set4_heap hq _ _ _ _) (set4_bxs hq h.bx _ _ _ _) (set4_ok h.ok hq _ _ _ _) h1 h2 h3
theorem stp_late {w W : World} {m f b p d u s p1 p2 p3 : Nat} {L : List (Nat × Nat)} (h : St w m f b p d u s W L) (h1 : (p1,207) ∈ L) (h2 : (p2,208) ∈ L) (h3 : (p3,209) ∈ L) :
 Stp w f (.pointer (some ⟨W.heap.size,0,none⟩)) (W.alloc (.cells #[.func (.func 263) #[] #[.pointer (some ⟨p1,0,none⟩)],.func (.func 263) #[] #[.pointer (some ⟨p2,0,none⟩)],.func (.func 48) #[.pointer (some ⟨f,0,none⟩)] #[],.func (.func 263) #[] #[.pointer (some ⟨p3,0,none⟩)]] 250)) :=
 stp_mk (heap_new W _) (h.alloc _).bx (h.alloc _).ok h1 h2 h3
def stg (X : List Int) : Nat -> List Int
 | 0=>X
 | 1=>X.map (fun x=>lowP x spanT)
 | 2=>(X.map (fun x=>lowP x spanT)).map widP
 | 3=>nfcP clsP ((X.map (fun x=>lowP x spanT)).map widP)
 | _=>(nfcP clsP ((X.map (fun x=>lowP x spanT)).map widP)).map stP
theorem stg_four (X : List Int) : stg X 4 = mapP X:=by
 have e : (X.map (fun x=>lowP x spanT)).map widP = X.map tP:=by rw [List.map_map]; rfl
 show (nfcP clsP ((X.map (fun x=>lowP x spanT)).map widP)).map stP = _
 rw [e]; rfl
theorem map_I32 {t : Int -> Int} (ht : ∀ x,I32 x -> I32 (t x)) {X : List Int} (h : ∀ x ∈ X,I32 x) : ∀ y ∈ X.map t,I32 y:=fun y hy=>by
 obtain ⟨x,hx,rfl⟩:=List.mem_map.1 hy
 exact ht x (h x hx)
theorem stg_1 {X : List Int} (h : ∀ x ∈ X,I32 x) : ∀ y ∈ stg X 1,I32 y:=map_I32 (fun x hx=>(low_facts x hx).2) h
theorem stg_2 {X : List Int} (h : ∀ x ∈ X,I32 x) : ∀ y ∈ stg X 2,I32 y:=map_I32 (fun x hx=>(wid_facts x hx).2) (stg_1 h)
theorem stg_2l (X : List Int) : (stg X 2).length = X.length:=by simp [stg]
theorem stg_3 {X : List Int} (h : ∀ x ∈ X,I32 x) : (∀ y ∈ stg X 3,I32 y) ∧ (stg X 3).length <= 96 * X.length:=by
 have:=nfc_I32 (stg X 2) (stg_2 h)
 rw [stg_2l] at this;exact this
theorem four_cells {W : World} {q : Nat} {x y z t : Value} (h : W.heap[q]? = some (.cells #[x,y,z,t] 250)) : W.cell? ⟨q,0,none⟩ = some x ∧ W.cell? ⟨q,1,none⟩ = some y ∧ W.cell? ⟨q,2,none⟩ = some z ∧ W.cell? ⟨q,3,none⟩ = some t:=by
 unfold World.cell?
 rw [h];exact ⟨rfl,rfl,rfl,rfl⟩
theorem info_step : (Tryz.prog.info? 247).map (fun i=>(i.zero,i.size,i.bytes)) = some (some .nilFunc,1,8):=by kernel_rfl
theorem idx4 (x y z t : Value) (w : World) : (Instr.index 250 (.agg #[x,y,z,t]) (.int .i64 0)).run Tryz.prog w = .ok x w ∧ (Instr.index 250 (.agg #[x,y,z,t]) (.int .i64 1)).run Tryz.prog w = .ok y w ∧ (Instr.index 250 (.agg #[x,y,z,t]) (.int .i64 2)).run Tryz.prog w = .ok z w ∧ (Instr.index 250 (.agg #[x,y,z,t]) (.int .i64 3)).run Tryz.prog w = .ok t w:=by
 obtain ⟨i0,hi,hz0,hz1,hz2⟩:=info_parts info_step
 have h:=fun (i : Nat) (hl : i < 4)=>Od.run_index_agg (P:=Tryz.prog) w 250 247 4 i0 #[x,y,z,t] .i64 i Tryz.underlying250 hi hl
 refine ⟨(h 0 (by omega)).trans ?_,(h 1 (by omega)).trans ?_,(h 2 (by omega)).trans ?_,(h 3 (by omega)).trans ?_⟩
 all_goals
  rw [hz1];simp [part,isAgg,run_underlying Tryz.underlying247]
theorem map_any {w : World} {m f b p d u s : Nat} (hM : Mp w m f b p d u s) {v : Value} {X : List Int} (hS : Sl .i32 w v X) (hI : ∀ x ∈ X,I32 x) (hn : X.length <= 10000) :
 Calls Tryz.prog 134 #[.pointer (some ⟨m,0,none⟩),v] w fun e w'=>∃ v',e = .returned v' ∧ Sl .i32 w' v' (mapP X) ∧ Below w.heap.size w w':=by
 have HM:=hr hM
 have HS:=hr hS
 have HI:=hr hI
 have HE:=hr (fun g W=>each_any g W)
 have HD : Hid (St w m f b p d u s w.drew []):=⟨(Ok.start w).step ((Below.refl _ _).drew),hM.step ((Below.refl _ _).drew),fun x hx=>by simp at hx⟩
 have HA : Hid (St w m f b p d u s (w.alloc (.cells #[.nilFunc,.nilFunc,.nilFunc,.nilFunc] 250)).drew []):=⟨(Ok.start w).alloc.step ((Below.refl _ _).drew),hM.step (((Ok.start w).alloc.step ((Below.refl _ _).drew)).1),fun x hx=>by simp at hx⟩
 have HAe : Hid (Em w (w.alloc (.cells #[.nilFunc,.nilFunc,.nilFunc,.nilFunc] 250)).drew w.heap.size):=⟨heap_new w _,Nat.le_refl _⟩
 have c0:=hM.bx.cell
 clear hM hS hI;go_enter Tryz.func134,Tryz.ntmps134
 go_wp2_with fail;go_cut [5] from 8 to 16 (fun v5 wx=>Stp w f v5 wx)
 case first =>
  go_region_held3 (fun w'=>w'.cell? ⟨m,0,none⟩ = some (.pointer (some ⟨f,0,none⟩)))
   (first | (with_reducible exact HD.out.cell) | (with_reducible exact HM.out.cell) | (with_reducible exact HA.out.cell) | (with_reducible exact (HD.out.alloc _).cell) | (with_reducible exact set4_cell HM.out HD.out.ok HQ.out _ _ _ _))
   (first
    | (go_at_call 206; refine (HE.out _ _).mono ?_; rintro e w' ⟨pp,rfl,hx,_,hb'⟩; with_reducible (have HD2:=hr (HD.out.call hx hb')); clear HD; have HD:=HD2; clear HD2; (try (replace HQ:=hr (HQ.out.step hb'); obtain ⟨k0,k1,k2,k3⟩:=HQ.out.nf.cells; have kf:=HQ.out.nf.frozen)); clear hx hb')
    | (go_at_call 206; refine (HE.out _ _).mono ?_; rintro e w' ⟨pp,rfl,hx,_,hb'⟩; with_reducible (have HQ:=hr (Em.new HD.out hb')); with_reducible (have HD2:=hr ((HD.out.alloc _).call hx hb')); clear HD; have HD:=HD2; clear HD2; obtain ⟨k0,k1,k2,k3⟩:=HQ.out.nf.cells; have kf:=HQ.out.nf.frozen; clear hx hb')
    | (go_at_call 206; refine (HE.out _ _).mono ?_; rintro e w' ⟨pp,rfl,hx,_,hb'⟩; with_reducible (have HQ:=hr (HAe.out.step hb')); with_reducible (have HD2:=hr (HA.out.call hx hb')); clear HD; have HD:=HD2; clear HD2; obtain ⟨k0,k1,k2,k3⟩:=HQ.out.nf.cells; have kf:=HQ.out.nf.frozen; clear hx hb'))
  all_goals (try go_wp2_with fail)
  all_goals go_meet
  all_goals first | (with_reducible refine stp_early HD.out HQ.out ?_ ?_ ?_) | (with_reducible refine stp_late HD.out ?_ ?_ ?_) | skip
  all_goals first | exact List.mem_cons_self | exact List.mem_cons_of_mem _ List.mem_cons_self | exact List.mem_cons_of_mem _ (List.mem_cons_of_mem _ List.mem_cons_self)
 case rest =>
  obtain ⟨q,p1,p2,p3,rfl,hq,hb1,hb2,hb3,hok⟩:=hcut
  have HQ:=hr hq
  have HB:=hr (And.intro hb1 (And.intro hb2 hb3));have HO:=hr hok
  obtain ⟨e0,e1,e2,e3⟩:=four_cells hq
  have HSw:=hr (fun (W : World) (h : Below wc.heap.size wc W)=>HS.out.step (HO.out.step h).1)
  have HFm:=hr (fun (W : World) (h : Below wc.heap.size wc W)=>HM.out.fm.step (HO.out.step h).1)
  have HBw:=hr (fun (W : World) (h : Below wc.heap.size wc W)=>And.intro (HB.out.1.step h) (And.intro (HB.out.2.1.step h) (HB.out.2.2.step h)))
  have HK:=hr (Ok.start wc);unfold stV at e0 e1 e3;have hi0:=fun W=>(idx4 (.func (.func 263) #[] #[.pointer (some ⟨p1,0,none⟩)]) (.func (.func 263) #[] #[.pointer (some ⟨p2,0,none⟩)]) (.func (.func 48) #[.pointer (some ⟨f,0,none⟩)] #[]) (.func (.func 263) #[] #[.pointer (some ⟨p3,0,none⟩)]) W).1
  have hi1:=fun W=>(idx4 (.func (.func 263) #[] #[.pointer (some ⟨p1,0,none⟩)]) (.func (.func 263) #[] #[.pointer (some ⟨p2,0,none⟩)]) (.func (.func 48) #[.pointer (some ⟨f,0,none⟩)] #[]) (.func (.func 263) #[] #[.pointer (some ⟨p3,0,none⟩)]) W).2.1
  have hi2:=fun W=>(idx4 (.func (.func 263) #[] #[.pointer (some ⟨p1,0,none⟩)]) (.func (.func 263) #[] #[.pointer (some ⟨p2,0,none⟩)]) (.func (.func 48) #[.pointer (some ⟨f,0,none⟩)] #[]) (.func (.func 263) #[] #[.pointer (some ⟨p3,0,none⟩)]) W).2.2.1
  have hi3:=fun W=>(idx4 (.func (.func 263) #[] #[.pointer (some ⟨p1,0,none⟩)]) (.func (.func 263) #[] #[.pointer (some ⟨p2,0,none⟩)]) (.func (.func 48) #[.pointer (some ⟨f,0,none⟩)] #[]) (.func (.func 263) #[] #[.pointer (some ⟨p3,0,none⟩)]) W).2.2.2
  have hen : ∀ args w,(callFunc 263 args).run Tryz.prog w = .ok (.enter 263 args) w:=enters_of Tryz.func263 (by kernel_rfl) rfl
  have hen2 : ∀ args w,(callFunc 48 args).run Tryz.prog w = .ok (.enter 48 args) w:=enters_of Tryz.func48 (by kernel_rfl) rfl
  clear hq hb1 hb2 hb3 hok;go_wp2_with fail;go_loopg [1,18] 4 (fun gg vl vi wr=>∃ k : Nat,vi = .int .i64 k ∧ k <= 4 ∧ gg = 4 - k ∧ Hid (Sl .i32 wr vl (stg X k) ∧ Ok wc.heap.size wc wr))
  case atStart=>exact ⟨0,rfl,Nat.zero_le _,rfl,HSw.out _ (Below.refl _ _),HK.out⟩
  case round =>
   obtain ⟨k,rfl,hk,hg,H⟩:=hrel
   have HG:=hr hg
   clear hg HK;have hk5 : k = 0 ∨ k = 1 ∨ k = 2 ∨ k = 3 ∨ k = 4:=by omega
   rcases hk5 with rfl | rfl | rfl | rfl | rfl
   ·go_wp2_with fail;refine (each1_any trn_low (HBw.out _ H.out.2.1).1 H.out.1 HI.out (by show X.length <= _; omega)).mono ?_
    rintro e w' ⟨v',rfl,hS',hb'⟩;have HN : Hid (Sl .i32 w' v' (stg X 1) ∧ Ok wc.heap.size wc w'):=⟨hS',H.out.2.step hb'⟩
    clear hS' hb';go_wp2_with fail;go_roundg (4 - 1)
    case measure=>rw [HG.out]; omega
    case rel=>exact ⟨1,rfl,by omega,rfl,HN.out⟩
   ·go_wp2_with fail;refine (each1_any trn_wid (HBw.out _ H.out.2.1).2.1 H.out.1 (stg_1 HI.out) (by show (X.map _).length <= _; rw [List.length_map]; omega)).mono ?_
    rintro e w' ⟨v',rfl,hS',hb'⟩;have HN : Hid (Sl .i32 w' v' (stg X 2) ∧ Ok wc.heap.size wc w'):=⟨hS',H.out.2.step hb'⟩
    clear hS' hb';go_wp2_with fail;go_roundg (4 - 2)
    case measure=>rw [HG.out]; omega
    case rel=>exact ⟨2,rfl,by omega,rfl,HN.out⟩
   ·go_wp2_with fail;refine (nfc_any (HFm.out _ H.out.2.1) H.out.1 (stg_2 HI.out) (by rw [stg_2l]; omega)).mono ?_
    rintro e w' ⟨v',rfl,hS',hb'⟩;have HN : Hid (Sl .i32 w' v' (stg X 3) ∧ Ok wc.heap.size wc w'):=⟨hS',H.out.2.step hb'⟩
    clear hS' hb';go_wp2_with fail;go_roundg (4 - 3)
    case measure=>rw [HG.out]; omega
    case rel=>exact ⟨3,rfl,by omega,rfl,HN.out⟩
   ·go_wp2_with fail;refine (each1_any trn_stop (HBw.out _ H.out.2.1).2.2 H.out.1 (stg_3 HI.out).1 (Nat.le_trans (stg_3 HI.out).2 (by omega))).mono ?_;rintro e w' ⟨v',rfl,hS',hb'⟩
    have HN : Hid (Sl .i32 w' v' (stg X 4) ∧ Ok wc.heap.size wc w'):=⟨hS',H.out.2.step hb'⟩
    clear hS' hb';go_wp2_with fail;go_roundg (4 - 4)
    case measure=>rw [HG.out]; omega
    case rel=>exact ⟨4,rfl,by omega,rfl,HN.out⟩
   ·go_wp2_with fail;go_ret;exact ⟨_,rfl,by rw [<- stg_four]; exact H.out.1,(HO.out.step H.out.2.1).1⟩
end Ma
end Go.Proofs.YtkhipgcgcbhjoaaGreat
namespace Go.Proofs.YtkhipgcgcbhjoaaGreat
namespace Ma
open Go.RowKit Od
def splP : List Int -> List (List Int)
 | []=>[[]]
 | x :: l=>if x = 46 then [] :: splP l else match splP l with
  | []=>[[x]]
  | p :: ps=>(x :: p) :: ps
def jnP : List (List Int) -> List Int
 | []=>[]
 | [p]=>p
 | p :: q :: ps=>p ++ 46 :: jnP (q :: ps)
theorem spl_ne : ∀ l,splP l ≠ []
 | []=>by simp [splP]
 | x :: l=>by
  simp only [splP]
  split
  ·simp
  ·split <;> simp
theorem spl_cut : ∀ (A B : List Int),46 ∉ A -> splP (A ++ 46 :: B) = A :: splP B
 | [],B,_=>by simp [splP]
 | x :: A,B,h=>by
  have h1 : x ≠ 46:=fun e=>h (by rw [e]; exact List.mem_cons_self)
  have h2:=spl_cut A B (fun m=>h (List.mem_cons_of_mem _ m))
  rw [List.cons_append,splP,if_neg h1,h2]
theorem spl_one : ∀ (A : List Int),46 ∉ A -> splP A = [A]
 | [],_=>rfl
 | x :: A,h=>by
  have h1 : x ≠ 46:=fun e=>h (by rw [e]; exact List.mem_cons_self)
  rw [splP,if_neg h1,spl_one A (fun m=>h (List.mem_cons_of_mem _ m))]
theorem spl_stop : ∀ (l : List Int),splP (l ++ [46]) = splP l ++ [[]]
 | []=>by simp [splP]
 | x :: l=>by
  rw [List.cons_append,splP,splP,spl_stop l];split
  ·rfl
  ·cases h : splP l with
   | nil=>exact absurd h (spl_ne l)
   | cons p ps=>rfl
theorem jn_cons (p : List Int) {ps : List (List Int)} (h : ps ≠ []) : jnP (p :: ps) = p ++ 46 :: jnP ps:=by
 match ps,h with
 | q :: ps,_=>rfl
theorem jn_spl : ∀ l,jnP (splP l) = l
 | []=>rfl
 | x :: l=>by
  rw [splP];by_cases h : x = 46
  ·rw [if_pos h,jn_cons [] (spl_ne l),jn_spl l,h]; rfl
  ·rw [if_neg h];have ih:=jn_spl l
   cases hs : splP l with
   | nil=>exact absurd hs (spl_ne l)
   | cons p ps =>
    rw [hs] at ih;show jnP ((x :: p) :: ps) = x :: l
    match ps,ih with
    | [],ih=>rw [<- ih]; rfl
    | q :: ps,ih =>
     rw [jn_cons p (by simp)] at ih;rw [jn_cons (x :: p) (by simp),<- ih]; rfl
theorem jn_snoc : ∀ (ps : List (List Int)) (q : List Int),ps ≠ [] -> jnP (ps ++ [q]) = jnP ps ++ [46] ++ q
 | [],_,h=>absurd rfl h
 | [p],q,_=>by simp [jnP]
 | p :: p' :: ps,q,_=>by
  have:=jn_snoc (p' :: ps) q (by simp)
  rw [List.cons_append,jn_cons p (by simp),this,jn_cons p (by simp)];simp
theorem spl_len : ∀ l : List Int,(splP l).length <= l.length + 1
 | []=>by simp [splP]
 | x :: l=>by
  have:=spl_len l
  rw [splP];split
  ·simp; omega
  ·cases h : splP l with
   | nil=>simp
   | cons p ps=>rw [h] at this; simp at this ⊢; omega
theorem spl_mem : ∀ (l : List Int),∀ p ∈ splP l,p.length <= l.length ∧ ∀ x ∈ p,x ∈ l
 | [],p,h=>by simp [splP] at h; subst h; simp
 | x :: l,p,h=>by
  rw [splP] at h;by_cases hx : x = 46
  ·rw [if_pos hx] at h;rcases List.mem_cons.1 h with rfl | h
   ·exact ⟨Nat.zero_le _,fun y hy=>by simp at hy⟩
   ·have:=spl_mem l p h
    exact ⟨by simp; omega,fun y hy=>List.mem_cons_of_mem _ (this.2 y hy)⟩
  ·rw [if_neg hx] at h;cases hs : splP l with
   | nil=>exact absurd hs (spl_ne l)
   | cons q qs =>
    rw [hs] at h;rcases List.mem_cons.1 h with rfl | h
    ·have:=spl_mem l q (by rw [hs]; exact List.mem_cons_self)
     refine ⟨by simp; omega,fun y hy=>?_⟩
     rcases List.mem_cons.1 hy with rfl | hy
     ·exact List.mem_cons_self
     ·exact List.mem_cons_of_mem _ (this.2 y hy)
    ·have:=spl_mem l p (by rw [hs]; exact List.mem_cons_of_mem _ h)
     exact ⟨by simp; omega,fun y hy=>List.mem_cons_of_mem _ (this.2 y hy)⟩
end Ma
end Go.Proofs.YtkhipgcgcbhjoaaGreat
namespace Go.Proofs.YtkhipgcgcbhjoaaGreat
namespace Nf
open Go.RowKit Od Pr Ha
end Nf
end Go.Proofs.YtkhipgcgcbhjoaaGreat
namespace Go.Proofs.YtkhipgcgcbhjoaaGreat
namespace Od
open Go.RowKit
end Od
end Go.Proofs.YtkhipgcgcbhjoaaGreat
