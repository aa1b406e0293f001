import Derived.Test.YtkhipgcgcbhjoaaGreatDn11
set_option maxRecDepth 100000
set_option maxHeartbeats 4000000
namespace Go.Proofs.YtkhipgcgcbhjoaaGreat.Uc
open Go.RowKit
open Go.Maps (Keyed IsMap)
theorem zero_u16 (w : World) : (zeroValue 151).run Tryz.prog w = .ok (.int .u16 0) w:=by kernel_rfl
section
variable {w : World} {p : Nat} {f : Nat -> Value} {k : Nat} {bl : List (List Nat)} {pl : List Nat} {bv : Value} {wr w' : World}
theorem LayW.cells (h : LayW w p f k bl pl bv wr) : wr.cell? ⟨p,1,none⟩ = some bv ∧ ∀ o,wr.frozen? ⟨p,o,none⟩ = false :=
 ⟨by have:=h.row.cell (i:=1) (by omega); simpa using this,h.row.frozen⟩
theorem LayW.placeCell (h : LayW w p f k bl pl bv wr) (hk : k < 4352) : ∃ v,wr.cell? ⟨p,2 + k,none⟩ = some v:=⟨_,h.row.cell (i:=2 + k) (by omega)⟩
theorem LayW.bvSlice (h : LayW w p f k bl pl bv wr) : ∃ ao cap,bv = .slice ao bl.length cap:=own_slice h.own
end
structure AtBlk (w : World) (p : Nat) (f : Nat -> Value) (k : Nat) (bl : List (List Nat)) (pl : List Nat) (bv : Value) (b : List Nat) (W : World) (lb : Nat) : Prop where
 lay : LayW w p f k bl pl bv W
 blk : W.heap[lb]? = some (.cells (u16s b).toArray 211 (0,0))
 lt : w.heap.size < lb
theorem map_kept {w W w3 : World} {p lb : Nat} {bv : Value} {C : Array Value} {t : TypeId} (hg : W.grownBy w3 (some w.heap.size)) (hc : W.cell? ⟨p,1,none⟩ = some bv) (h : p < W.heap.size ∧ lb < W.heap.size ∧ w.heap.size < lb) (hp : p < w.heap.size) (hb : W.heap[lb]? = some (.cells C t (0,0))) :
 w3.cell? ⟨p,1,none⟩ = some bv ∧ w3.heap[lb]? = some (.cells C t (0,0)) :=
 ⟨hg.cell hc (by simp; omega),(hg.block lb h.2.1 (by simp; omega)).trans hb⟩
theorem own_ne {w : World} {p : Nat} {f : Nat -> Value} {k : Nat} {bl : List (List Nat)} {pl : List Nat} {bv : Value} {W : World} (h : LayW w p f k bl pl bv W) : bv.ownBlock = none ∨ bv.ownBlock ≠ some w.heap.size:=by
 cases e : bv.ownBlock with
 | none=>exact .inl rfl
 | some g=>exact .inr (fun e2=>by have:=(h.ownLt e).1; simp at e2; omega)
theorem new_cells {w3 w5 : World} {p : Nat} {bv : Value} {o : Obj} (hc : w3.cell? ⟨p,1,none⟩ = some bv) (hg : (w3.drew.alloc o).grownBy w5 bv.ownBlock) (hp : bv.ownBlock ≠ some p) : w5.cell? ⟨p,1,none⟩ = some bv:=by
 have hlt : p < w3.heap.size:=World.block_lt_of_cell? w3 ⟨p,1,none⟩ hc
 have e : w5.heap[p]? = w3.heap[p]?:=(hg.block p (by simp; omega) (fun e=>hp e.symm)).trans (Below.heap_alloc w3.drew _ _ hlt)
 exact (World.cell?_of_block (a:=⟨p,1,none⟩) e).trans hc
theorem new_frozen {w w5 : World} {p : Nat} {f : Nat -> Value} {k : Nat} {bl : List (List Nat)} {pl : List Nat} {bv v' : Value} (h : LayW w p f k bl pl bv (w5.setCell ⟨p,1,none⟩ v')) : w5.frozen? ⟨p,1,none⟩ = false:=by
 have:=h.cells.2 1
 rwa [World.frozen?_setCell] at this
theorem new_cell1 {w3 : World} {p : Nat} {bv : Value} {o : Obj} (hc : w3.cell? ⟨p,1,none⟩ = some bv) : (w3.alloc o).cell? ⟨p,1,none⟩ = some bv :=
 (World.cell?_alloc_some w3 ⟨p,1,none⟩ o (by rw [hc]; rfl)).trans hc
theorem blk_info {b : List Nat} (h : BlkOk b) : (Tryz.prog.info? 211).map (·.size) = some (u16s b).toArray.size:=by rw [Tryz.info_blk]; simp [u16s,h.1]
theorem blk_hold {b : List Nat} (h : BlkOk b) : z256.size = (u16s b).toArray.size:=by simp [u16s,h.1,z256]
theorem blk_one (b : List Nat) : (u16s b).toArray.all (·.oneCell') = true:=by
 rw [Array.all_eq_true_iff_forall_mem];intro v hv
 simp [u16s] at hv
 obtain ⟨n,_,rfl⟩:=hv
 rfl
theorem lit_inj {q : IntKind} {a b : Int} (h : (DataW.lit (.int q a) : DataW Unit) = .lit (.int q b)) : a = b:=by injection h with h; injection h
theorem lay_any {w : World} {p : Nat} {f : Nat -> Value} (hrow : w.rowIs p 154 4354 f) (hf1 : f 1 = .slice none 0 0) {v : Value} {l : List (SRow Nat)} (h : RowsIn w v l) (hv : v.ownBlock ≠ some p) (a : Int) (hr : Rising a l) (hf : Fine l) (hl : l.length <= 5000) :
 Calls Tryz.prog 96 #[.pointer (some ⟨p,0,none⟩),v] w fun e w'=>e = .returned (.tuple #[]) ∧ ∃ bl pl,(∃ bv,LayW w p f 4352 bl pl bv w') ∧ LaidTo (at' 0 l) 4352 bl pl:=by
 have hmm:=@run_makeMap Tryz.prog
 have hz:=z256_zero
 have HS : Hid (LayW w p f 0 [] [] (.slice none 0 0) (w.alloc (.map #[] 0))):=by
  refine ⟨⟨_,World.ownsMap_made _ _ _ _,MapOk.nil⟩,World.ownsRow_nil _ _ _ _,(hrow.alloc _).congr (fun j _=>?_),(Chg.refl _ _).alloc _,by simp,hrow.lt,fun b hb=>by simp at hb⟩
  by_cases e0 : j = 0
  ·subst e0; rfl
  ·by_cases e1 : j = 1
   ·subst e1; simp [hf1]
   ·simp [e0,e1]
 have HR:=hid (And.intro hr (And.intro hf h));clear h hr hf hf1 hrow;go_enter Tryz.func96,Tryz.ntmps96
 go_wp2
 go_loopg [11,1] 4352 (fun g i rv wr=>∃ k bl pl bv d,k <= 4352 ∧ g = 4352 - k ∧ i = .int .i64 (k : Nat) ∧ Left w p l (256 * (k : Int)) rv d ∧ LayW w p f k bl pl bv wr ∧ LaidTo (at' 0 l) k bl pl)
 case atStart=>exact ⟨0,[],[],_,0,by omega,by omega,rfl,⟨HR.out.2.2,hv,fun x hx=>by simp at hx⟩,HS.out,LaidTo.nil _⟩
 case round =>
  clear HS;obtain ⟨k,bl,pl,bv,d,hk,hg,rfl,hleft,hlay,hlaid⟩:=hrel
  have HG:=hid hg
  have HL:=hid hlay
  have HT:=hid hleft
  have HP:=hid hlaid
  clear hg hlay hleft hlaid;by_cases hlt : k < 4352
  ·have q1 : wrap64 ((k : Int) * 256) = (k : Int) * 256:=by unfold wrap64; omega
   have q2 : wrap32 ((k : Int) * 256) = (k : Int) * 256:=by unfold wrap32; omega
   have hlt' : (k : Int) < 4352:=by omega
   go_wp2
   go_loop [1] (fun rv=>∃ d,Hid (Left w p l (256 * (k : Int)) rv d)) (fun rv=>lenOf rv)
   case atStart=>exact ⟨d,HT.out⟩
   case round =>
    clear HT;obtain ⟨d,HT⟩:=hrel
    by_cases hstep : ∃ x r,l.drop d = x :: r ∧ x.t < 256 * (k : Int)
    ·obtain ⟨x,r,hd,hx⟩:=hstep
     obtain ⟨g,off,cap,rfl,ct,h1,h2⟩:=(HL.out.rows (show RowsIn w _ (x :: r) by rw [<- hd]; exact HT.out.rows) HT.out.own).head
     obtain ⟨g',off',cap',e',ct',n1,n2⟩:=(show RowsIn w _ (x :: r) by rw [<- hd]; exact HT.out.rows).head
     cases e'
     have hx' : x.t < (k : Int) * 256:=by omega
     have HN1:=hid (fun e : cap = 1=>HT.out.next hd hx (n1 e) HT.out.own)
     have HN2:=hid (fun e : ¬ cap = 1=>HT.out.next hd hx (n2 e) HT.out.own)
     clear h1 h2 n1 n2 ct' hd hx;generalize x.t = xt at *;by_cases hc1 : cap = 1
     ·have HN:=hid (HN1.out hc1);clear HN1 HN2;subst hc1;go_wp2
      all_goals
       go_round
       case rel=>exact ⟨d + 1,HN.out⟩
       case measure=>simp [lenOf]
     ·have HN:=hid (HN2.out hc1);clear HN1 HN2;go_wp2
      all_goals
       go_round
       case rel=>exact ⟨d + 1,HN.out⟩
       case measure=>simp [lenOf]
    ·have hrv : (∃ ao cap,u1 = .slice ao 0 cap) ∨ ∃ g off n cap t,u1 = .slice (some ⟨g,off,none⟩) (n + 1) cap ∧ wr.cell? ⟨g,off + 1,none⟩ = some (.int .i32 t) ∧ ¬ t < (k : Int) * 256:=by
      have h1:=HL.out.rows HT.out.rows HT.out.own
      cases hd : l.drop d with
      | nil =>
       rw [hd] at h1;obtain ⟨ao,cap,e,_⟩:=h1.slice
       exact .inl ⟨ao,cap,e⟩
      | cons x r =>
       rw [hd] at h1;obtain ⟨g,off,cap,e,ct,_⟩:=h1.head
       exact .inr ⟨g,off,r.length,cap,x.t,e,ct,fun e=>hstep ⟨x,r,hd,by omega⟩⟩
     have HC:=hid (lay_cut HL.out HT.out a HR.out.1 HR.out.2.1 hl hlt);have HT2:=hid (HT.out.mono (b':=256 * ((k + 1 : Nat) : Int)) (by omega))
     have hbo:=blkN_ok (at' 0 l) k (at_lt l HR.out.2.1)
     clear hstep HR HT;have HKEY:=hid hbo
     clear hbo;rcases hrv with ⟨ao,cap,rfl⟩ | ⟨g,off,n,cap,t,rfl,ct,hnt⟩
     all_goals
      go_wp2_with fail;refine HC.out.mono ?_;rintro e w1 ⟨rfl,hb1⟩;have HA : Hid (AtBlk w p f k bl pl bv (blkN (at' 0 l) k) (w1.alloc (.cells (u16s (blkN (at' 0 l) k)).toArray 211)) w1.heap.size) :=
       ⟨(HL.out.step hb1).step ((Below.refl _ _).alloc (Nat.le_refl _) _),heap_alloc_new w1 _,Nat.lt_of_lt_of_le HL.out.size hb1.size⟩
      have gi:=hid (blk_info HKEY.out);have gh:=hid (blk_hold HKEY.out);have go:=hid (blk_one (blkN (at' 0 l) k));have gk:=hid (key_of HKEY.out);have HP1:=hid (fun (i : Nat) (hi : bl[i]? = some (blkN (at' 0 l) k))=>HP.out.old hi)
      have HP2:=hid (fun hn=>HP.out.new hn)
      have hpl:=hid HP.out.len
      clear HP HC HL;generalize blkN (at' 0 l) k = b at *;by_cases hm : b ∈ bl
      ·obtain ⟨i,hi⟩:=List.mem_iff_getElem?.1 hm
       obtain ⟨D,hown,hD⟩:=HA.out.lay.map
       obtain ⟨hhas,hkat⟩:=hD.yes i b hi
       have HOWN:=hid hown
       have HAT:=hid hkat
       have hil : Hid (i < 65536):=by
        have h1:=(List.getElem?_eq_some_iff.1 hi).1
        have h2:=(HP1.out i hi).most
        show _ < _; omega
       have HP3:=hid (HP1.out i hi);have HE:=hid (HA.out.lay.place hlt hpl.out i);obtain ⟨v0,hpc⟩:=HA.out.lay.placeCell hlt
       have hpf:=HA.out.lay.cells.2 (2 + k)
       have gb:=hid HA.out.blk
       clear hown hkat hD hi hm HP1 HP2 HA;go_wp2_with (first
        | (refine wpList_store_row rfl 211 (.tmp 7) (.tmp 32) rfl w1.heap.size (u16s b).toArray rfl rfl 211 z256 (heap_alloc_new w1 _) gi.out gh.out go.out ?_; rw [World.setRow_alloc_new])
        | (refine wpList_load_row rfl 211 (.tmp 7) rfl w1.heap.size rfl 211 (u16s b).toArray (0,0) _ gb.out Tryz.underlying211 rfl gi.out ?_)
        | (at_lookup; refine wpList_lookup_own_ok_int _ rfl (.tmp 34) (.tmp 35) 207 rfl 211 151 .u16 Tryz.lawBlk Tryz.underlying207 Tryz.underlying151 (zero_u16 _) w.heap.size bl.length D rfl HOWN.out (.agg (u16s b).toArray) (key b) rfl gk.out ?_; intro c hat hwc; obtain rfl : c = (i : Int):=lit_inj (hat.symm.trans HAT.out); clear hat hwc))
       go_roundg (4352 - (k + 1))
       case measure=>rw [HG.out]; omega
       case rel=>exact ⟨k + 1,bl,pl ++ [i],bv,d,by omega,rfl,by go_num,HT2.out,HE.out,HP3.out⟩
      ·obtain ⟨D,hown,hD⟩:=HA.out.lay.map
       have hhas:=hD.no b HKEY.out hm
       have HOWN:=hid hown
       have HP3:=hid (HP2.out hm);have hbl : bl.length <= 4352:=by have:=HP3.out.most; simp at this; omega
       obtain ⟨ao',cap',rfl⟩:=HA.out.lay.bvSlice
       obtain ⟨c1,c2⟩:=HA.out.lay.cells
       have gb:=hid HA.out.blk
       have q3 : IntKind.u16.wrap (bl.length : Int) = (bl.length : Int):=wrap_u16 _ (by omega) (by omega)
       have HM:=hid hm
       have HDD:=hid hD
       have hplt:=hid HA.out.lay.plt
       have hW : Hid (p < (w1.alloc (.cells (u16s b).toArray 211)).heap.size ∧ w1.heap.size < (w1.alloc (.cells (u16s b).toArray 211)).heap.size ∧ w.heap.size < w1.heap.size):=⟨HA.out.lay.row.lt,(Array.getElem?_eq_some_iff.1 HA.out.blk).1,HA.out.lt⟩
       have HO : Hid (∀ w3 : World,(w1.alloc (.cells (u16s b).toArray 211)).grownBy w3 (some w.heap.size) -> w3.drew.ownsRow (w.heap.size + 1) 211 256 (.slice ao' bl.length cap') bl.length (bl.flatMap u16s)):=fun w3 h3=>(HA.out.lay.own.kept h3 (own_ne HA.out.lay) : w3.ownsRow _ _ _ _ _ _)
       have HB3 : Hid (∀ w3 : World,(w1.alloc (.cells (u16s b).toArray 211)).grownBy w3 (some w.heap.size) -> w.heap.size + 1 <= w3.drew.heap.size):=fun w3 h3=>Nat.le_trans HA.out.lay.size h3.size
       have hpbv : Hid ((Value.slice ao' bl.length cap').ownBlock ≠ some p):=fun e=>by have:=HA.out.lay.ownLt e; have:=HA.out.lay.plt; omega
       clear hown hD hm HP1 HP2 c2;go_wp2_with (first
        | (refine wpList_store_row rfl 211 (.tmp 7) (.tmp 32) rfl w1.heap.size (u16s b).toArray rfl rfl 211 z256 (heap_alloc_new w1 _) gi.out gh.out go.out ?_; rw [World.setRow_alloc_new])
        | (refine wpList_load_row rfl 211 (.tmp 7) rfl w1.heap.size rfl 211 (u16s b).toArray (0,0) _ gb.out Tryz.underlying211 rfl gi.out ?_)
        | (at_lookup; refine wpList_lookup_own_ok_int _ rfl (.tmp 34) (.tmp 35) 207 rfl 211 151 .u16 Tryz.lawBlk Tryz.underlying207 Tryz.underlying151 (zero_u16 _) w.heap.size bl.length D rfl HOWN.out (.agg (u16s b).toArray) (key b) rfl gk.out ?_; intro c hat hwc; clear hat hwc)
        | (at_mapUpdate; refine wpList_mapUpdate_own _ rfl (.tmp 47) (.tmp 48) (.tmp 49) 207 rfl 211 151 Tryz.lawBlk Tryz.underlying207 _ w.heap.size bl.length D rfl HOWN.out (by unfold maxLen; omega) (.agg (u16s b).toArray) (.int .u16 (bl.length : Int)) (key b) rfl rfl gk.out _ [] (plainElem_int Tryz.underlying151 (wf_u16 _ (by omega))) ?_; intro w3 hown3 hg3; obtain ⟨d1,d2⟩:=map_kept hg3 c1 hW.out hplt.out gb.out; have HG3:=hid hg3; have HO3:=hid hown3; have gb3:=hid d2; clear hown3 hg3 d2))
       refine wp_region_held_drew (S:=fun _=>True) (by kernel_rfl) trivial (fun _=>?_)
       refine wpAnyH_take (i:=0) (v:=.pointer (some ⟨p,0,none⟩)) rfl (by kernel_rfl) (by kernel_rfl) (by kernel_rfl) (fun _ _ _ h=>h) (Or.inl ⟨by rfl,by (intro w _; go_simp)⟩) trivial ?_
       refine wpAnyH_take (i:=1) (v:=.pointer (some ⟨p,0,none⟩)) rfl (by kernel_rfl) (by kernel_rfl) (by kernel_rfl) (fun _ _ _ h=>h) (Or.inl ⟨by rfl,by (intro w _; go_simp)⟩) trivial ?_
       refine wpAnyH_take (i:=2) (v:=.pointer (some ⟨p,0,none⟩)) rfl (by kernel_rfl) (by kernel_rfl) (by kernel_rfl) (fun _ _ _ h=>h) (Or.inl ⟨by rfl,by (intro w _; go_simp)⟩) trivial ?_
       refine wpAnyH_take (i:=3) (v:=.pointer (some ⟨p,1,none⟩)) rfl (by kernel_rfl) (by kernel_rfl) (by kernel_rfl) (fun _ _ _ h=>h) (Or.inl ⟨by rfl,by (intro w _; go_simp)⟩) trivial ?_
       refine wpAnyH_ready (rs:=[4,5]) (by kernel_rfl) (by simp) ?_
       refine AllReadyH.cons rfl (fun K hK=>?_) ?_
       ·go_simp
        refine hK.out _ _ trivial (fun _=>?_)
        clear hK K;refine wpAnyH_ready (rs:=[5]) (by kernel_rfl) (by simp) ?_
        refine AllReadyH.cons rfl (fun K hK=>?_) AllReadyH.nil
        rw [if_pos (by rfl)];refine wp_load_row 211 (.tmp 7) rfl w1.heap.size rfl 211 (u16s b).toArray (0,0) _ gb3.out Tryz.underlying211 rfl gi.out ?_
        refine hK.out _ _ trivial (fun _=>?_)
        clear hK K;refine wpAnyH_ready (rs:=[6]) (by kernel_rfl) (by simp) ?_
        refine AllReadyH.cons rfl (fun K hK=>?_) AllReadyH.nil
        rw [if_pos (by rfl)];refine wp_blk_slice (.tmp 55) rfl HKEY.out rfl ?_
        refine hK.out _ _ trivial (fun _=>?_)
        clear hK K;refine wpAnyH_ready (rs:=[7]) (by kernel_rfl) (by simp) ?_
        refine AllReadyH.cons rfl (fun K hK=>?_) AllReadyH.nil
        rw [if_pos (by rfl)];refine wp_blk_append (.tmp 54) (.tmp 56) rfl HKEY.out rfl rfl (HO.out w3 HG3.out) (by omega) (HB3.out w3 HG3.out) ?_
        intro v' w5 ho hg5 hloc
        obtain ⟨ao5,cap5,rfl⟩:=own_slice ho
        have HN:=hid (HA.out.lay.new HKEY.out HM.out HDD.out HO3.out HG3.out ho hg5 hloc);have e1:=new_cells d1 hg5 hpbv.out
        have e3:=new_frozen HN.out
        clear ho hg5 hloc;refine hK.out _ _ trivial (fun _=>?_)
        clear hK K;refine wpAnyH_take (i:=8) (v:=.pointer (some ⟨p,0,none⟩)) rfl (by kernel_rfl) (by kernel_rfl) (by kernel_rfl) (fun _ _ _ h=>h) (Or.inl ⟨by rfl,by (intro w _; go_simp)⟩) trivial ?_
        refine wpAnyH_take (i:=9) (v:=.pointer (some ⟨p,1,none⟩)) rfl (by kernel_rfl) (by kernel_rfl) (by kernel_rfl) (fun _ _ _ h=>h) (Or.inl ⟨by rfl,by (intro w _; go_simp)⟩) trivial ?_
        refine wpAnyH_ready (rs:=[10]) (by kernel_rfl) (by simp) ?_
        refine AllReadyH.cons rfl (fun K hK=>?_) AllReadyH.nil
        go_simp
        refine hK.out _ _ trivial (fun _=>?_)
        clear hK K;refine wpAnyH_done (by kernel_rfl) ?_ _
        obtain ⟨v0,hpc⟩:=HN.out.placeCell hlt
        have hpf:=HN.out.cells.2 (2 + k)
        have HE:=hid (HN.out.place hlt hpl.out bl.length);clear HN e1 e3 HA;generalize w5.setCell ⟨p,1,none⟩ (.slice ao5 (bl.length + 1) cap5) = W6 at *;go_wp2_with fail
        go_roundg (4352 - (k + 1))
        case measure=>rw [HG.out]; omega
        case rel=>exact ⟨k + 1,bl ++ [b],pl ++ [bl.length],_,d,by omega,rfl,by go_num,HT2.out,HE.out,HP3.out⟩
       ·refine AllReadyH.cons rfl (fun K hK=>?_) AllReadyH.nil
        rw [if_pos (by rfl)];refine wp_load_row 211 (.tmp 7) rfl w1.heap.size rfl 211 (u16s b).toArray (0,0) _ gb3.out Tryz.underlying211 rfl gi.out ?_
        refine hK.out _ _ trivial (fun _=>?_)
        clear hK K;refine wpAnyH_ready (rs:=[4,6]) (by kernel_rfl) (by simp) ?_
        refine AllReadyH.cons rfl (fun K hK=>?_) ?_
        ·go_simp
         refine hK.out _ _ trivial (fun _=>?_)
         clear hK K;refine wpAnyH_ready (rs:=[6]) (by kernel_rfl) (by simp) ?_
         refine AllReadyH.cons rfl (fun K hK=>?_) AllReadyH.nil
         rw [if_pos (by rfl)];refine wp_blk_slice (.tmp 55) rfl HKEY.out rfl ?_
         refine hK.out _ _ trivial (fun _=>?_)
         clear hK K;refine wpAnyH_ready (rs:=[7]) (by kernel_rfl) (by simp) ?_
         refine AllReadyH.cons rfl (fun K hK=>?_) AllReadyH.nil
         rw [if_pos (by rfl)];refine wp_blk_append (.tmp 54) (.tmp 56) rfl HKEY.out rfl rfl (HO.out w3 HG3.out) (by omega) (HB3.out w3 HG3.out) ?_
         intro v' w5 ho hg5 hloc
         obtain ⟨ao5,cap5,rfl⟩:=own_slice ho
         have HN:=hid (HA.out.lay.new HKEY.out HM.out HDD.out HO3.out HG3.out ho hg5 hloc);have e1:=new_cells d1 hg5 hpbv.out
         have e3:=new_frozen HN.out
         clear ho hg5 hloc;refine hK.out _ _ trivial (fun _=>?_)
         clear hK K;refine wpAnyH_take (i:=8) (v:=.pointer (some ⟨p,0,none⟩)) rfl (by kernel_rfl) (by kernel_rfl) (by kernel_rfl) (fun _ _ _ h=>h) (Or.inl ⟨by rfl,by (intro w _; go_simp)⟩) trivial ?_
         refine wpAnyH_take (i:=9) (v:=.pointer (some ⟨p,1,none⟩)) rfl (by kernel_rfl) (by kernel_rfl) (by kernel_rfl) (fun _ _ _ h=>h) (Or.inl ⟨by rfl,by (intro w _; go_simp)⟩) trivial ?_
         refine wpAnyH_ready (rs:=[10]) (by kernel_rfl) (by simp) ?_
         refine AllReadyH.cons rfl (fun K hK=>?_) AllReadyH.nil
         go_simp
         refine hK.out _ _ trivial (fun _=>?_)
         clear hK K;refine wpAnyH_done (by kernel_rfl) ?_ _
         obtain ⟨v0,hpc⟩:=HN.out.placeCell hlt
         have hpf:=HN.out.cells.2 (2 + k)
         have HE:=hid (HN.out.place hlt hpl.out bl.length);clear HN e1 e3 HA;generalize w5.setCell ⟨p,1,none⟩ (.slice ao5 (bl.length + 1) cap5) = W6 at *;go_wp2_with fail
         go_roundg (4352 - (k + 1))
         case measure=>rw [HG.out]; omega
         case rel=>exact ⟨k + 1,bl ++ [b],pl ++ [bl.length],_,d,by omega,rfl,by go_num,HT2.out,HE.out,HP3.out⟩
        ·refine AllReadyH.cons rfl (fun K hK=>?_) AllReadyH.nil
         rw [if_pos (by rfl)];refine wp_blk_slice (.tmp 55) rfl HKEY.out rfl ?_
         refine hK.out _ _ trivial (fun _=>?_)
         clear hK K;have d1a:=new_cell1 (o:=.cells (u16s b).toArray 211) d1
         refine wpAnyH_ready (rs:=[4]) (by kernel_rfl) (by simp) ?_
         refine AllReadyH.cons rfl (fun K hK=>?_) AllReadyH.nil
         go_simp
         refine hK.out _ _ trivial (fun _=>?_)
         clear hK K d1a;refine wpAnyH_ready (rs:=[7]) (by kernel_rfl) (by simp) ?_
         refine AllReadyH.cons rfl (fun K hK=>?_) AllReadyH.nil
         rw [if_pos (by rfl)];refine wp_blk_append (w:=w3.drew) (.tmp 54) (.tmp 56) rfl HKEY.out rfl rfl (HO.out w3 HG3.out) (by omega) (HB3.out w3 HG3.out) ?_
         intro v' w5 ho hg5 hloc
         obtain ⟨ao5,cap5,rfl⟩:=own_slice ho
         have HN:=hid (HA.out.lay.new HKEY.out HM.out HDD.out HO3.out HG3.out ho hg5 hloc);have e1:=new_cells d1 hg5 hpbv.out
         have e3:=new_frozen HN.out
         clear ho hg5 hloc;refine hK.out _ _ trivial (fun _=>?_)
         clear hK K;refine wpAnyH_take (i:=8) (v:=.pointer (some ⟨p,0,none⟩)) rfl (by kernel_rfl) (by kernel_rfl) (by kernel_rfl) (fun _ _ _ h=>h) (Or.inl ⟨by rfl,by (intro w _; go_simp)⟩) trivial ?_
         refine wpAnyH_take (i:=9) (v:=.pointer (some ⟨p,1,none⟩)) rfl (by kernel_rfl) (by kernel_rfl) (by kernel_rfl) (fun _ _ _ h=>h) (Or.inl ⟨by rfl,by (intro w _; go_simp)⟩) trivial ?_
         refine wpAnyH_ready (rs:=[10]) (by kernel_rfl) (by simp) ?_
         refine AllReadyH.cons rfl (fun K hK=>?_) AllReadyH.nil
         go_simp
         refine hK.out _ _ trivial (fun _=>?_)
         clear hK K;refine wpAnyH_done (by kernel_rfl) ?_ _
         obtain ⟨v0,hpc⟩:=HN.out.placeCell hlt
         have hpf:=HN.out.cells.2 (2 + k)
         have HE:=hid (HN.out.place hlt hpl.out bl.length);clear HN e1 e3 HA;generalize w5.setCell ⟨p,1,none⟩ (.slice ao5 (bl.length + 1) cap5) = W6 at *;go_wp2_with fail
         go_roundg (4352 - (k + 1))
         case measure=>rw [HG.out]; omega
         case rel=>exact ⟨k + 1,bl ++ [b],pl ++ [bl.length],_,d,by omega,rfl,by go_num,HT2.out,HE.out,HP3.out⟩
  ·have e : k = 4352:=by omega
   subst e;have hn : ¬ ((4352 : Nat) : Int) < 4352:=by omega
   clear HG HT HR;go_wp2_with fail;go_end0
   exact ⟨rfl,bl,pl,⟨bv,HL.out⟩,HP.out⟩
end Go.Proofs.YtkhipgcgcbhjoaaGreat.Uc
namespace Go.Proofs.YtkhipgcgcbhjoaaGreat.Uc
open Go.RowKit
def VIn (w : World) (v : Value) (l : List (SRow Tr)) : Prop :=
 ∃ ao cap,v = .slice ao l.length cap ∧ (∀ k,v.ownBlock = some k -> k < w.heap.size) ∧ ∀ j (h : j < l.length),∃ g off,ao = some ⟨g,off,none⟩ ∧ g < w.heap.size ∧
  w.cell? ⟨g,off + j * 7,none⟩ = some (.int .i32 l[j].f) ∧ w.cell? ⟨g,off + j * 7 + 1,none⟩ = some (.int .i32 l[j].t) ∧ At5 w g (off + j * 7 + 2) l[j].v
theorem VIn.chg {w w' : World} {v : Value} {l : List (SRow Tr)} {S : Nat -> Prop} (h : VIn w v l) (hb : Chg S w w') (hv : ∀ k,v.ownBlock = some k -> ¬ S k) : VIn w' v l:=by
 obtain ⟨ao,cap,e,hw,hc⟩:=h
 refine ⟨ao,cap,e,fun k hk=>Nat.lt_of_lt_of_le (hw k hk) hb.size,fun j hj=>?_⟩
 obtain ⟨g,off,e2,hg,h0,h1,h2⟩:=hc j hj
 have hk:=hb.block g hg (hv g (by rw [e,e2]; rfl))
 refine ⟨g,off,e2,Nat.lt_of_lt_of_le hg hb.size,?_⟩
 rw [World.cell?_of_block (a:=⟨g,off + j * 7,none⟩) hk,World.cell?_of_block (a:=⟨g,off + j * 7 + 1,none⟩) hk]
 exact ⟨h0,h1,h2.of_block hk⟩
theorem VIn.step {w w' : World} {v : Value} {l : List (SRow Tr)} (h : VIn w v l) (hb : Below w.heap.size w w') : VIn w' v l:=h.chg (S:=fun _=>False) (.of_below hb) (fun _ _ e=>e)
theorem check_any {w : World} {v : Value} {l : List (SRow Tr)} (h : VIn w v l) (hl : l.length <= maxLen) :
 Calls Tryz.prog 95 #[v] w fun e w'=>e = .returned (.int .i64 (check l)) ∧ Below w.heap.size w w':=by
 obtain ⟨ao,cap,rfl,_,hc⟩:=h
 have HC:=hid hc
 clear hc;unfold maxLen at hl;by_cases hbig : 4096 < l.length
 ·have h1 : (4096 : Int) < (l.length : Int):=by omega
  have H : Hid (check l = 10):=if_pos hbig
  clear HC;go_enter Tryz.func95,Tryz.ntmps95
  go_wp2
  go_ret;exact ⟨ret_int H.out.symm,Below.refl _ _⟩
 ·have h1 : ¬ (4096 : Int) < (l.length : Int):=by omega
  have H : Hid (check l = chk (-1) l):=if_neg hbig
  go_enter Tryz.func95,Tryz.ntmps95
  go_wp2
  go_loopg [11,3] l.length (fun g i av wr=>∃ (k : Nat) (a : Int),k <= l.length ∧ g = l.length - k ∧ i = .int .i64 k ∧ av = .int .i32 a ∧ Below w.heap.size w wr ∧ Hid (check l = chk a (l.drop k)))
  case atStart=>exact ⟨0,-1,Nat.zero_le _,by omega,rfl,rfl,Below.refl _ _,H.out⟩
  case round =>
   clear H;obtain ⟨k,a,hk,hg,rfl,rfl,hb,H⟩:=hrel
   have HG:=hid hg
   clear hg;by_cases hlt : k < l.length
   ·obtain ⟨gb,off,rfl,hgb,e0,e1,e2⟩:=HC.out k hlt
    have d0:=(hb.cell (p:=⟨gb,off + k * 7,none⟩) hgb).trans e0
    have d1:=(hb.cell (p:=⟨gb,off + k * 7 + 1,none⟩) hgb).trans e1
    obtain ⟨d2,g3,g4,g5,g6⟩:=e2.of_block (hb.block gb hgb)
    have d3 : wr.cell? ⟨gb,off + k * 7 + 3,none⟩ = some _:=g3
    have d4 : wr.cell? ⟨gb,off + k * 7 + 4,none⟩ = some _:=g4
    have d5 : wr.cell? ⟨gb,off + k * 7 + 5,none⟩ = some _:=g5
    have d6 : wr.cell? ⟨gb,off + k * 7 + 6,none⟩ = some _:=g6
    clear g3 g4 g5 g6;clear e0 e1 e2;have H2 : Hid (check l = if l[k].f < 0 ∨ l[k].t < l[k].f ∨ 1114111 < l[k].t then 7 else if l[k].f <= a then 9 else chk l[k].t (l.drop (k + 1))):=by show _ = _;rw [H.out,List.drop_eq_getElem_cons hlt]; rfl
    clear H;have HB:=hid (fun o=>hb.alloc (by have:=hb.size; omega) o)
    clear HC hb;generalize l[k] = x at *;obtain ⟨xf,xt,xv⟩:=x
    obtain ⟨va,vb,vc,vd,ve⟩:=xv
    simp only at d0 d1 d2 d3 d4 d5 d6 H2
    by_cases hbad : xf < 0 ∨ xt < xf ∨ 1114111 < xt
    ·have H3 : Hid (check l = 7):=by show _ = _; rw [H2.out,if_pos hbad]
     clear H2;by_cases b1 : xf < 0
     ·clear hbad;go_wp2
      go_ret;exact ⟨ret_int H3.out.symm,HB.out _⟩
     ·by_cases b2 : xt < xf
      ·clear hbad;go_wp2
       go_ret;exact ⟨ret_int H3.out.symm,HB.out _⟩
      ·have b3 : (1114111 : Int) < xt:=by omega
       clear hbad;go_wp2
       go_ret;exact ⟨ret_int H3.out.symm,HB.out _⟩
    ·have b1 : ¬ xf < 0:=by omega
     have b2 : ¬ xt < xf:=by omega
     have b3 : ¬ (1114111 : Int) < xt:=by omega
     by_cases b4 : xf <= a
     ·have H3 : Hid (check l = 9):=by show _ = _; rw [H2.out,if_neg hbad,if_pos b4]
      clear H2 hbad;go_wp2
      go_ret;exact ⟨ret_int H3.out.symm,HB.out _⟩
     ·have H3 : Hid (check l = chk xt (l.drop (k + 1))):=by show _ = _; rw [H2.out,if_neg hbad,if_neg b4]
      clear H2 hbad;go_wp2
      go_roundg (l.length - (k + 1))
      case measure=>rw [HG.out]; omega
      case rel=>exact ⟨k + 1,xt,by omega,rfl,by go_num,rfl,HB.out _,H3.out⟩
   ·have e : k = l.length:=by omega
    subst e;have H3 : Hid (check l = 0):=by show _ = _; rw [H.out,List.drop_length]; rfl
    clear H;go_wp2
    go_ret;exact ⟨ret_int H3.out.symm,hb⟩
structure Numd (other : Tr) (l : List (SRow Tr)) (vals : List Tr) (nr : List (SRow Nat)) : Prop where
 len : nr.length = l.length
 same : ∀ (j : Nat) (x : SRow Tr) (y : SRow Nat),l[j]? = some x -> nr[j]? = some y -> y.f = x.f ∧ y.t = x.t ∧ vals[y.v]? = some x.v
 nodup : vals.Nodup
 head : vals[0]? = some other
def rowCells (x : SRow Nat) : List Value:=[.int .i32 x.f,.int .i32 x.t,.int .u16 x.v]
theorem rowCells_at : ∀ (l : List (SRow Nat)) (j : Nat) (h : j < l.length),(l.flatMap rowCells)[j * 3]? = some (.int .i32 l[j].f) ∧ (l.flatMap rowCells)[j * 3 + 1]? = some (.int .i32 l[j].t) ∧ (l.flatMap rowCells)[j * 3 + 2]? = some (.int .u16 l[j].v)
 | [],_,h=>by simp at h
 | x :: l,0,_=>by simp [rowCells]
 | x :: l,j + 1,h=>by
  have:=rowCells_at l j (by simpa using h)
  have e : (j + 1) * 3 = j * 3 + 1 + 1 + 1:=by omega
  have e1 : (j + 1) * 3 + 1 = j * 3 + 1 + 1 + 1 + 1:=by omega
  have e2 : (j + 1) * 3 + 2 = j * 3 + 2 + 1 + 1 + 1:=by omega
  rw [e1,e2,e];simpa [List.flatMap_cons,rowCells] using this
theorem rows_of_own {w : World} {B : Nat} {v : Value} {l : List (SRow Nat)} (h : w.ownsRow B 209 3 v l.length (l.flatMap rowCells)) : RowsIn w v l:=by
 rcases h.2 with ⟨h1,h2⟩ | ⟨g,cap,cur,rfl,h2,h3,h4,h5,h6,h7⟩
 ·exact .inl ⟨List.eq_nil_of_length_eq_zero h2,none,0,by rw [h1]⟩
 ·refine .inr ⟨g,0,cap,rfl,h4,(Array.getElem?_eq_some_iff.1 h3).1,fun j hj=>?_⟩
  obtain ⟨e0,e1,e2⟩:=rowCells_at l j hj
  rw [Nat.zero_add,h.cellAt (j * 3) (by omega),h.cellAt (j * 3 + 1) (by omega),h.cellAt (j * 3 + 2) (by omega)];exact ⟨e0,e1,e2⟩
theorem Tryz.info_row : (Tryz.prog.info? 209).map (fun i=>(i.zero,i.size,i.bytes)) = some (some (.agg #[.int .i32 0,.int .i32 0,.int .u16 0]),3,12):=by kernel_rfl
structure NumW (w : World) (p : Nat) (f : Nat -> Value) (other : Tr) (l : List (SRow Tr)) (k m : Nat) (vals : List Tr) (nr : List (SRow Nat)) (vv ov : Value) (wr : World) : Prop where
 tab : Vals wr w.heap.size p (fun j=>if j = 0 then vv else f j) vals
 own : wr.ownsRow w.heap.size 209 3 ov nr.length (nr.flatMap rowCells)
 apart : vv.ownBlock = none ∨ vv.ownBlock ≠ ov.ownBlock
 numd : Numd other (l.take k) vals nr
 chg : Chg (· = p) w wr
 plt : p < w.heap.size
 most : vals.length <= m
theorem NumW.step {w : World} {p : Nat} {f : Nat -> Value} {other : Tr} {l : List (SRow Tr)} {k m : Nat} {vals : List Tr} {nr : List (SRow Nat)} {vv ov : Value} {wr w' : World} (h : NumW w p f other l k m vals nr vv ov wr) (hb : Below wr.heap.size wr w') : NumW w p f other l k m vals nr vv ov w' :=
 ⟨h.tab.step hb,h.own.kept (row:=none) ⟨hb.os,hb.tape,hb.output,hb.size,fun k hk _=>hb.block k hk⟩ (by cases ov.ownBlock <;> simp),h.apart,h.numd,h.chg.step hb,h.plt,h.most⟩
theorem NumW.kept {w : World} {p : Nat} {f : Nat -> Value} {other : Tr} {l : List (SRow Tr)} {k m : Nat} {vals : List Tr} {nr : List (SRow Nat)} {vv ov : Value} {wr w1 : World} {x : Tr} {e : Ending} (h : NumW w p f other l k m vals nr vv ov wr) (hk : Kept wr w.heap.size p (fun j=>if j = 0 then vv else f j) vals x e w1) :
 ∃ (n : Nat) (vv' : Value) (vals' : List Tr),e = .returned (.int .u16 n) ∧ vals'[n]? = some x ∧ NumW w p f other l k (m + 1) vals' nr vv' ov w1 ∧ (∀ lb,lb < wr.heap.size -> lb ≠ p -> vv.ownBlock ≠ some lb -> w1.heap[lb]? = wr.heap[lb]?) ∧ wr.heap.size <= w1.heap.size:=by
 obtain ⟨n,v',l',rfl,hn,hl',hv',hc,hb⟩:=hk
 have e1 : (fun j=>if j = 0 then v' else if j = 0 then vv else f j) = (fun j=>if j = 0 then v' else f j):=by funext j; by_cases e : j = 0 <;> simp [e]
 have hv'' : Vals w1 w.heap.size p (fun j=>if j = 0 then v' else f j) l':=by
  have h2:=hv'
  simp only at h2
  rw [e1] at h2; exact h2
 have hvv : ∀ g,vv.ownBlock = some g -> w.heap.size <= g:=fun g hg=>(h.tab.own.lt g hg).1
 simp only [if_true] at hc hb
 have hap : v'.ownBlock = none ∨ v'.ownBlock ≠ ov.ownBlock:=by
  rcases hb with e | ⟨g,e,hg⟩
  ·rw [e]; exact h.apart
  ·refine .inr (fun e2=>?_)
   have:=(h.own.lt g (by rw [<- e2]; exact e)).2
   omega
 refine ⟨n,v',l',rfl,hn,⟨hv'',?_,hap,?_,?_,h.plt,?_⟩,?_,hc.size⟩
 ·refine ⟨h.own.1,?_⟩
  rcases h.own.2 with h1 | ⟨g,cap,cur,e,h2,h3,h4⟩
  ·exact .inl h1
  ·refine .inr ⟨g,cap,cur,e,h2,?_,h4⟩
   rw [hc.block g (Array.getElem?_eq_some_iff.1 h3).1 ?_]; exact h3
   rintro (e2 | e2)
   ·have:=h.plt; omega
   ·rcases h.apart with e3 | e3
    ·rw [e3] at e2; simp at e2
    ·exact e3 (by rw [e2,e]; rfl)
 ·refine ⟨h.numd.len,fun j x y hx hy=>?_,?_,?_⟩
  ·obtain ⟨q1,q2,q3⟩:=h.numd.same j x y hx hy
   refine ⟨q1,q2,?_⟩
   rcases hl' with ⟨rfl,_⟩ | ⟨rfl,_⟩
   ·exact q3
   ·rw [List.getElem?_append_left (List.getElem?_eq_some_iff.1 q3).1]; exact q3
  ·rcases hl' with ⟨rfl,_⟩ | ⟨rfl,hx⟩
   ·exact h.numd.nodup
   ·rw [List.nodup_append];refine ⟨h.numd.nodup,by simp,fun a ha b hb e=>?_⟩
    simp at hb; subst hb; subst e; exact hx ha
  ·rcases hl' with ⟨rfl,_⟩ | ⟨rfl,hx⟩
   ·exact h.numd.head
   ·rw [List.getElem?_append_left (List.getElem?_eq_some_iff.1 h.numd.head).1]; exact h.numd.head
 ·exact h.chg.andThen hc (fun i hi e=>by
   rcases e with e | e
   ·exact e
   ·have:=hvv i e; omega)
 ·have:=h.most
  rcases hl' with ⟨rfl,_⟩ | ⟨rfl,_⟩
  ·omega
  ·simp; omega
 ·exact fun lb h1 h2 h3=>hc.block lb h1 (by rintro (e | e); exact h2 e; exact h3 e)
theorem NumW.next {w : World} {p : Nat} {f : Nat -> Value} {other : Tr} {l : List (SRow Tr)} {k m : Nat} {vals : List Tr} {nr : List (SRow Nat)} {vv ov ov' : Value} {w1 w2 : World} {x : SRow Tr} {n : Nat} (h : NumW w p f other l k m vals nr vv ov w1) (hk : k < l.length) (hx : l[k]? = some x) (hn : vals[n]? = some x.v)
 (ho : w2.ownsRow w.heap.size 209 3 ov' (nr.length + 1) (nr.flatMap rowCells ++ rowCells ⟨x.f,x.t,n⟩)) (hg : (w1.alloc (.cells #[.int .i32 x.f,.int .i32 x.t,.int .u16 (n : Int)] 209)).grownBy w2 ov.ownBlock) (hloc : ov'.ownBlock = ov.ownBlock ∨ ov'.ownBlock = some (w1.heap.size + 1)) :
 NumW w p f other l (k + 1) m vals (nr ++ [⟨x.f,x.t,n⟩]) vv ov' w2:=by
 have hg' : w1.grownBy w2 ov.ownBlock:=(World.grownBy_alloc w1 _ _).trans hg
 have hov : ∀ g,ov.ownBlock = some g -> w.heap.size <= g:=fun g hg=>(h.own.lt g hg).1
 have hp:=h.plt
 have hvlt:=h.tab.own.lt
 simp only [if_true] at hvlt
 refine ⟨⟨h.tab.row.of_block (hg'.block p h.tab.row.lt (fun e=>by have:=hov p e.symm; omega)),h.tab.own.step (fun g hg=>?_),h.tab.apart⟩,?_,?_,?_,?_,hp,h.most⟩
 ·simp only [if_true] at hg
  refine hg'.block g (hvlt g hg).2 (fun e=>?_)
  rcases h.apart with e2 | e2
  ·rw [e2] at hg; simp at hg
  ·exact e2 (by rw [hg,e])
 ·rw [List.length_append,List.flatMap_append];simpa using ho
 ·rcases hloc with e | e
  ·rw [e]; exact h.apart
  ·cases e2 : vv.ownBlock with
   | none=>exact .inl rfl
   | some g=>exact .inr (fun e3=>by rw [e] at e3; simp at e3; have:=(hvlt g e2).2; omega)
 ·refine ⟨?_,fun j y z hy hz=>?_,h.numd.nodup,h.numd.head⟩
  ·have:=h.numd.len
   simp only [List.length_append,List.length_take,List.length_cons,List.length_nil] at this ⊢; omega
  ·have hlen:=h.numd.len
   have hlt : (l.take k).length = k:=by rw [List.length_take]; omega
   rw [take_succ' l k hk] at hy;by_cases e : j < k
   ·rw [List.getElem?_append_left (by omega)] at hy hz
    exact h.numd.same j y z hy hz
   ·have : j = k:=by have:=(List.getElem?_eq_some_iff.1 hz).1; simp at this; omega
    subst this;rw [List.getElem?_append_right (by omega),hlt] at hy;rw [List.getElem?_append_right (by omega),hlen,hlt] at hz;simp at hy hz
    have e2 : l[j] = x:=by rw [List.getElem?_eq_getElem hk] at hx; exact Option.some.inj hx
    subst hz; subst hy; rw [e2];exact ⟨rfl,rfl,hn⟩
 ·exact h.chg.grown hg' (fun g e hg=>by have:=hov g e; omega)
end Go.Proofs.YtkhipgcgcbhjoaaGreat.Uc
