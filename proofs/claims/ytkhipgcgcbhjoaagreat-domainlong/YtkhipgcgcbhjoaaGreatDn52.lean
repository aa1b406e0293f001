import Derived.Test.YtkhipgcgcbhjoaaGreatDn23
set_option maxRecDepth 100000
set_option maxHeartbeats 4000000
namespace Go.Proofs.YtkhipgcgcbhjoaaGreat
namespace Ma
open Go.RowKit Od
theorem hr8 {p : Prop} (h : p) : Hid p:=h
def IxP (X : List Int) (z : Int) : Prop:=(z = -1 ∧ 46 ∉ X) ∨ ∃ i : Nat,z = i ∧ i < X.length ∧ X = X.take i ++ 46 :: X.drop (i + 1) ∧ 46 ∉ X.take i
theorem ix_any {w : World} {v : Value} {zs : List Int} (h : Sl .i32 w v zs) (hn : zs.length <= 1000000) :
 Calls Tryz.prog 205 #[v,.int .i32 46] w fun e w'=>∃ z : Int,e = .returned (.int .i64 z) ∧ IxP zs z ∧ w' = w:=by
 obtain ⟨ao,cap,rfl,h⟩:=h
 have HS:=hr8 h
 clear h;generalize hlen : zs.length = len at *;have HLn:=hr8 hlen
 clear hlen;go_enter Tryz.func205,Tryz.ntmps205
 go_wp2_with fail;go_loop [8] (fun vi=>∃ k : Nat,k <= len ∧ vi = .int .i64 k ∧ Hid (46 ∉ zs.take k)) (fun vi=>len - (intOf vi).toNat)
 case atStart=>exact ⟨0,Nat.zero_le _,rfl,fun h=>by simp at h⟩
 case round =>
  obtain ⟨k,hk,rfl,H⟩:=hrel
  by_cases hlt : k < len
  ·have hlx : k < zs.length:=by rw [HLn.out]; exact hlt
   obtain ⟨b,off,rfl,hb,c1⟩:=HS.out.at_ k hlx
   have z1 : (k : Int) < (len : Int):=by omega
   by_cases he : zs[k] = 46
   ·have HE : Hid (IxP zs (k : Int)):=.inr ⟨k,rfl,hlx,by rw [<- he,<- List.drop_eq_getElem_cons hlx,List.take_append_drop],H.out⟩
    rw [he] at c1;go_wp2_with fail;try rw [Exit.noGoto_ret]
    go_ret;exact ⟨_,rfl,HE.out,rfl⟩
   ·have HN : Hid (46 ∉ zs.take (k + 1)):=fun h=>by
     rw [List.take_succ_eq_append_getElem hlx,List.mem_append,List.mem_singleton] at h;rcases h with h | h
     ·exact H.out h
     ·exact he h.symm
    generalize zs[k] = y at *;have q : (46 == y) = false:=beq_eq_false_iff_ne.2 (fun e=>he e.symm)
    go_wp2_with fail;go_round
    case rel=>exact ⟨k + 1,hlt,by go_num,HN⟩
    case measure=>(simp [intOf]) <;> omega
  ·have z1 : ¬ (k : Int) < (len : Int):=by omega
   have HE : Hid (IxP zs (-1)):=.inl ⟨rfl,by
    have e : k = zs.length:=by have:=HLn.out; omega
    have:=H.out
    rwa [e,List.take_length] at this⟩
   go_wp2_with fail;go_ret;exact ⟨_,rfl,HE.out,rfl⟩
theorem info_sl : (Tryz.prog.info? 22).map (fun i=>(i.zero,i.size,i.bytes)) = some (some (.slice none 0 0),1,24):=by kernel_rfl
theorem appS {ops : Array Oper} {rest : List Oper} {o : Oper} {a : Act} {Q : Exit -> Act -> World -> Prop} (hgd : o.guard = none) (s x : Operand)
 (ho : o.op = .call { callee:=.builtin .append,args:=#[s,x],argTypes:=#[183,183] }) (W : World) (B : Nat) (v : Value) (us : List Value) (r : Value) (hr : r.oneCell' = true) (hs : a.eval s = v) (N : Nat) (hN : W.heap.size = N) (hx : a.eval x = .slice (some ⟨N,0,none⟩) 1 1)
 (hown : W.ownsRow B 22 1 v us.length us) (hn : us.length <= 1000000) (hB : B <= W.heap.size)
 (h : ∀ v' w',w'.ownsRow B 22 1 v' (us ++ [r]).length (us ++ [r]) -> Below B W w' -> (W.alloc (.cells #[r] 22)).grownBy w' v.ownBlock -> wpList Tryz.prog ops Q rest (a.put o.dst v') w') :
 wpList Tryz.prog ops Q (o :: rest) a (W.alloc (.cells #[r] 22)):=by
 subst hN;obtain ⟨i0,hi,hz0,hz1,hz2⟩:=info_parts info_sl
 refine wpList_append_own_at _ hgd s x 183 ho B 22 i0 (.slice none 0 0) 1 24 Tryz.underlying183 hi hz0 hz1 hz2 rfl (by decide) v us.length us hs (hown.alloc _) ⟨W.heap.size,0,none⟩ 1 1 [r] hx rfl
  (World.news_of_block (heap_new W _)) (fun u hu=>by simp at hu; subst hu; exact hr) (by unfold maxLen; omega) (by omega) (by simp; omega) (fun v' w' h1 h2 _ _=>h v' w' ?_ ?_ h2)
 ·rw [List.length_append]; exact h1
 ·exact ((Below.refl _ _).alloc hB _).trans (below_of_grown h2 B (by simp; omega) (fun k e=>(hown.lt k e).1))
def Pts (B : Nat) (W : World) (us : List Value) (Ps : List (List Int)) : Prop:=us.length = Ps.length ∧ ∀ j (h : j < us.length) (h' : j < Ps.length),W.ownsRow B 21 1 us[j] Ps[j].length (ivs .i32 Ps[j])
theorem own_ne {W : World} {B B' n n' : Nat} {v v' : Value} {xs xs' : List Value} (h : W.ownsRow B 21 1 v n xs) (h' : W.ownsRow B' 22 1 v' n' xs') : v.ownBlock = none ∨ v.ownBlock ≠ v'.ownBlock:=by
 rcases h.2 with ⟨rfl,_⟩ | ⟨g,cap,cur,rfl,_,hg,_⟩
 ·exact .inl rfl
 ·refine .inr (fun e=>?_)
  rcases h'.2 with ⟨rfl,_⟩ | ⟨g',cap',cur',rfl,_,hg',_⟩
  ·simp [Value.ownBlock] at e
  ·simp [Value.ownBlock] at e
   subst e;rw [hg] at hg';simp at hg'
theorem Pts.grown {B B' n : Nat} {W W' : World} {us : List Value} {Ps : List (List Int)} {v : Value} {xs : List Value} (h : Pts B W us Ps) (hv : W.ownsRow B' 22 1 v n xs) (hg : W.grownBy W' v.ownBlock) : Pts B W' us Ps:=⟨h.1,fun j hj hj'=>(h.2 j hj hj').kept hg (own_ne (h.2 j hj hj') hv)⟩
theorem Pts.below {B : Nat} {W W' : World} {us : List Value} {Ps : List (List Int)} (h : Pts B W us Ps) (hb : Below W.heap.size W W') : Pts B W' us Ps:=⟨h.1,fun j hj hj'=>(h.2 j hj hj').kept (row:=none) ⟨hb.os,hb.tape,hb.output,hb.size,fun k hk _=>hb.block k hk⟩ (by cases hv : us[j].ownBlock <;> simp)⟩
theorem own_below {B n : Nat} {e : TypeId} {W W' : World} {v : Value} {xs : List Value} (h : W.ownsRow B e 1 v n xs) (hb : Below W.heap.size W W') : W'.ownsRow B e 1 v n xs:=h.kept (row:=none) ⟨hb.os,hb.tape,hb.output,hb.size,fun k hk _=>hb.block k hk⟩ (by cases hv : v.ownBlock <;> simp)
theorem Pts.snoc {B : Nat} {W : World} {us : List Value} {Ps : List (List Int)} {u : Value} {p : List Int} (h : Pts B W us Ps) (hu : W.ownsRow B 21 1 u p.length (ivs .i32 p)) : Pts B W (us ++ [u]) (Ps ++ [p]):=by
 refine ⟨by simp [h.1],fun j hj hj'=>?_⟩
 by_cases e : j < us.length
 ·rw [List.getElem_append_left e];have e' : j < Ps.length:=by rw [<- h.1]; exact e
  simp only [List.getElem_append_left e']
  exact h.2 j e e'
 ·have e1 : j = us.length:=by simp at hj; omega
  subst e1;have e2 : (Ps ++ [p])[us.length] = p:=by
   rw [List.getElem_append_right (by rw [h.1]; exact Nat.le_refl _)]
   simp [h.1]
  rw [e2];simpa using hu
theorem app32n {ops : Array Oper} {rest : List Oper} {o : Oper} {a : Act} {Q : Exit -> Act -> World -> Prop} (hgd : o.guard = none) (x : Operand)
 (ho : o.op = .call { callee:=.builtin .append,args:=#[.const (.slice none 0 0),x],argTypes:=#[22,22] }) (W : World) (B : Nat) (u : Value) (zs : List Int) (hx : a.eval x = u)
 (hz : Sl .i32 W u zs) (hn : zs.length <= 1000000) (hB : B <= W.heap.size)
 (h : ∀ v' w',w'.ownsRow B 21 1 v' zs.length (ivs .i32 zs) -> Below W.heap.size W w' -> wpList Tryz.prog ops Q rest (a.put o.dst v') w') :
 wpList Tryz.prog ops Q (o :: rest) a W:=by
 refine Ap.app32 hgd (.const (.slice none 0 0)) x ho W B (.slice none 0 0) u [] zs rfl hx (World.ownsRow_nil W B 21 1) hz (by simp; omega) hB (fun v' w' h1 h2 h3=>h v' w' h1 ⟨h2.os,h2.tape,h2.output,h2.size,fun k hk=>h3 k hk (by simp [Value.ownBlock])⟩)
theorem sl_take {k : IntKind} {w : World} {ao : Option Addr} {cap : Nat} {zs : List Int} (h : SlP k w ao cap zs) (i : Nat) (hi : i <= zs.length) : Sl k w (.slice ao i cap) (zs.take i):=by
 have e : (zs.take i).length = i:=by rw [List.length_take]; omega
 refine ⟨ao,cap,by rw [e],by rw [e]; exact Nat.le_trans hi h.fits,fun hn=>?_,fun j hj=>?_⟩
 ·have:=h.none_ hn
  exact ⟨by rw [e]; omega,this.2⟩
 ·obtain ⟨b,off,e1,hb,hc⟩:=h.at_ j (by rw [e] at hj; omega)
  exact ⟨b,off,e1,hb,by rw [hc]; simp⟩
theorem sl_drop {k : IntKind} {w : World} {b off cap : Nat} {zs : List Int} (h : SlP k w (some ⟨b,off,none⟩) cap zs) (i : Nat) (hi : i <= zs.length) : Sl k w (.slice (some ⟨b,off + i,none⟩) (zs.length - i) (cap - i)) (zs.drop i):=by
 have hf:=h.fits
 refine ⟨some ⟨b,off + i,none⟩,cap - i,by rw [List.length_drop],by rw [List.length_drop]; omega,fun e=>(by cases e),fun j hj=>?_⟩
 rw [List.length_drop] at hj;obtain ⟨b',off',e1,hb,hc⟩:=h.at_ (i + j) (by omega)
 injection e1 with e1;injection e1 with e2 e3 _;subst e2 e3;exact ⟨b,off + i,rfl,hb,by rw [Nat.add_assoc,hc]; simp⟩
structure Sp (w : World) (X R : List Int) (vl vp : Value) (us : List Value) (Ps : List (List Int)) (W : World) : Prop where
 l : Sl .i32 w vl R
 all : splP X = Ps ++ splP R
 row : W.ownsRow w.heap.size 22 1 vp us.length us
 pts : Pts w.heap.size W us Ps
 ok : Ok w.heap.size w W
 len : us.length + R.length <= X.length
theorem Sp.put {w W w1 w2 : World} {X R A : List Int} {vl vp v1 v2 : Value} {us : List Value} {Ps : List (List Int)} (h : Sp w X R vl vp us Ps W) (h1 : w1.ownsRow w.heap.size 21 1 v1 A.length (ivs .i32 A)) (hb1 : Below W.heap.size W w1)
 (h2 : w2.ownsRow w.heap.size 22 1 v2 (us ++ [v1]).length (us ++ [v1])) (hb2 : Below w.heap.size w1 w2) (hg : (w1.alloc (.cells #[v1] 22)).grownBy w2 vp.ownBlock) :
 w2.ownsRow w.heap.size 22 1 v2 (us ++ [v1]).length (us ++ [v1]) ∧ Pts w.heap.size w2 (us ++ [v1]) (Ps ++ [A]) ∧ Ok w.heap.size w w2:=by
 have ok1:=h.ok.step hb1
 refine ⟨h2,?_,⟨ok1.1.trans hb2,Nat.le_trans ok1.2 hb2.size⟩⟩
 have hrow1:=(own_below h.row hb1).alloc (.cells #[v1] 22)
 have hp:=((h.pts.below hb1).snoc h1).below ((Below.refl _ _).alloc (Nat.le_refl _) (.cells #[v1] 22))
 exact hp.grown hrow1 hg
theorem split_any {w : World} {v : Value} {X : List Int} (hS : Sl .i32 w v X) (hn : X.length <= 1000) :
 Calls Tryz.prog 133 #[v] w fun e w'=>∃ v' us,e = .returned v' ∧ w'.ownsRow w.heap.size 22 1 v' us.length us ∧ Pts w.heap.size w' us (splP X) ∧ Below w.heap.size w w':=by
 have H0 : Hid (Sp w X X v (.slice none 0 0) [] [] w):=⟨hS,rfl,World.ownsRow_nil _ _ _ _,⟨rfl,fun j hj _=>by simp at hj⟩,Ok.start w,by simp⟩
 clear hS;go_enter Tryz.func133,Tryz.ntmps133
 go_wp2_with fail;go_loopg [0,3] (X.length + 1) (fun gg vl vp wr=>∃ (R : List Int) (us : List Value) (Ps : List (List Int)),gg = R.length + 1 ∧ Hid (Sp w X R vl vp us Ps wr))
 case atStart=>exact ⟨X,[],[],rfl,H0.out⟩
 case round =>
  obtain ⟨R,us,Ps,hg,H⟩:=hrel
  have HG:=hr8 hg
  clear hg H0;have hlr:=H.out.len
  have HIx:=hr8 (ix_any (H.out.l.step H.out.ok.1) (by omega));obtain ⟨ao,cap,rfl,hSp⟩:=H.out.l
  have HSp:=hr8 hSp
  clear hSp;go_wp2_with fail;refine HIx.out.mono ?_;rintro e W1 ⟨z,rfl,hz,rfl⟩;rcases hz with ⟨rfl,hz⟩ | ⟨i,rfl,hi,hc,hz⟩
  ·have HA : Hid (splP X = Ps ++ [R]):=by show _ = _; rw [H.out.all,spl_one R hz]
   have HSr : Hid (Sl .i32 W1 (.slice ao R.length cap) R):=H.out.l.step H.out.ok.1
   have hRl : R.length <= 1000000:=by omega
   have hul : us.length <= 1000000:=by omega
   clear hz HIx;go_wp2_with (first
    | (at_builtin; refine app32n rfl (.tmp 10) rfl W1 w.heap.size (.slice ao R.length cap) R (by rfl) HSr.out hRl H.out.ok.2 (fun v1 w1 h1 hb1=>?_); obtain ⟨a1,c1,rfl⟩:=own_slice h1; have HN:=hr8 (And.intro h1 hb1); have hsz:=HN.out.2.size; clear h1 hb1)
    | (at_builtin; refine appS rfl (.tmp 9) (.tmp 12) rfl w1 w.heap.size _ us (.slice a1 R.length c1) rfl (by rfl) w1.heap.size rfl (by rfl) (own_below H.out.row HN.out.2) hul (Nat.le_trans H.out.ok.2 HN.out.2.size) (fun v2 w2 h2 hb2 hg2=>?_); have HF:=hr8 (H.out.put HN.out.1 HN.out.2 h2 hb2 hg2); clear h2 hb2 hg2))
   try rw [Exit.noGoto_ret]
   go_ret;exact ⟨_,_,rfl,HF.out.1,by rw [HA.out]; exact HF.out.2.1,HF.out.2.2.1⟩
  ·obtain ⟨b,off,rfl,hb,_⟩:=HSp.out.at_ i hi
   have hfit:=HSp.out.fits
   have hti : (R.take i).length = i:=by rw [List.length_take]; omega
   have HSr : Hid (Sl .i32 W1 (.slice (some ⟨b,off,none⟩) i cap) (R.take i)):=(sl_take HSp.out i (by omega)).step H.out.ok.1
   have HDr : Hid (Sl .i32 w (.slice (some ⟨b,off + (i + 1),none⟩) (R.length - (i + 1)) (cap - (i + 1))) (R.drop (i + 1))):=sl_drop HSp.out (i + 1) (by omega)
   have HA : Hid (splP X = (Ps ++ [R.take i]) ++ splP (R.drop (i + 1))):=by
    show _ = _;rw [H.out.all,hc,spl_cut _ _ hz];have e2 : (R.take i ++ 46 :: R.drop (i + 1)).take i = R.take i:=by rw [<- hc]
    have e3 : (R.take i ++ 46 :: R.drop (i + 1)).drop (i + 1) = R.drop (i + 1):=by rw [<- hc]
    rw [e2,e3];simp
   have hRl : (R.take i).length <= 1000000:=by omega
   have hul : us.length <= 1000000:=by omega
   have HLn : Hid ((us ++ [Value.slice none 0 0]).length + (R.drop (i + 1)).length <= X.length):=by show _ <= _; rw [List.length_append,List.length_drop,List.length_singleton]; omega
   have hlen1 : (R.drop (i + 1)).length + 1 < R.length + 1:=by rw [List.length_drop]; omega
   have z0 : ¬ (i : Int) < 0:=by omega
   have z1 : (i : Int) <= (cap : Int):=by omega
   have z2 : (i : Int) + 1 <= (R.length : Int):=by omega
   have HTi:=hr8 hti
   have HL1:=hr8 hlen1
   clear hz hc HIx hti hlen1;go_wp2_with (first
    | (at_builtin; refine app32n rfl (.tmp 17) rfl W1 w.heap.size (.slice (some ⟨b,off,none⟩) i cap) (R.take i) (by rfl) HSr.out hRl H.out.ok.2 (fun v1 w1 h1 hb1=>?_); rw [HTi.out] at h1; obtain ⟨a1,c1,rfl⟩:=own_slice h1; rw [<- HTi.out] at h1; have HN:=hr8 (And.intro h1 hb1); clear h1 hb1; rw [HTi.out] at HN)
    | (at_builtin; refine appS rfl (.tmp 14) (.tmp 19) rfl w1 w.heap.size _ us (.slice a1 i c1) rfl (by rfl) w1.heap.size rfl (by rfl) (own_below H.out.row HN.out.2) hul (Nat.le_trans H.out.ok.2 HN.out.2.size) (fun v2 w2 h2 hb2 hg2=>?_); have HF:=hr8 (H.out.put (A:=R.take i) (by rw [HTi.out]; exact HN.out.1) HN.out.2 h2 hb2 hg2); clear h2 hb2 hg2))
   ·go_roundg ((R.drop (i + 1)).length + 1)
    case measure=>rw [HG.out]; exact HL1.out
    case rel =>
     have hd : R.drop (i + 1) = []:=List.drop_eq_nil_of_le (by omega)
     refine ⟨R.drop (i + 1),us ++ [.slice a1 i c1],Ps ++ [R.take i],rfl,?_,HA.out,HF.out.1,HF.out.2.1,HF.out.2.2,by have:=HLn.out; rw [List.length_append] at this ⊢; exact this⟩
     rw [hd];have e0 : R.length - (i + 1) = 0:=by omega
     first
      | exact ⟨_,_,rfl,Nat.zero_le _,fun e=>(by cases e),fun j hj=>by simp at hj⟩
      | (rw [e0]; exact ⟨_,_,rfl,Nat.zero_le _,fun e=>(by cases e),fun j hj=>by simp at hj⟩)
   ·go_roundg ((R.drop (i + 1)).length + 1)
    case measure=>rw [HG.out]; exact HL1.out
    case rel=>exact ⟨R.drop (i + 1),us ++ [.slice a1 i c1],Ps ++ [R.take i],rfl,HDr.out,HA.out,HF.out.1,HF.out.2.1,HF.out.2.2,by have:=HLn.out; rw [List.length_append] at this ⊢; exact this⟩
theorem jn_take : ∀ (ps : List (List Int)) (k : Nat),(jnP (ps.take k)).length <= (jnP ps).length
 | [],_=>by simp
 | p :: ps,0=>by simp [jnP]
 | [p],k + 1=>by simp
 | p :: q :: ps,1=>by rw [jn_cons p (by simp)];simp [jnP]
 | p :: q :: ps,k + 2=>by
  have ih:=jn_take (q :: ps) (k + 1)
  have e : (p :: q :: ps).take (k + 2) = p :: (q :: ps).take (k + 1):=rfl
  rw [e,jn_cons p (by simp),jn_cons p (by simp)];simp only [List.length_append,List.length_cons]
  omega
theorem row_at {w : World} {B : Nat} {e : TypeId} {v : Value} {us : List Value} (h : w.ownsRow B e 1 v us.length us) : ∃ ao cap,v = .slice ao us.length cap ∧ us.length <= cap ∧ ∀ j (hj : j < us.length),∃ g,ao = some ⟨g,0,none⟩ ∧ g < w.heap.size ∧ w.cell? ⟨g,j,none⟩ = some us[j]:=by
 rcases h.2 with ⟨rfl,h0⟩ | ⟨g,cap,cur,rfl,_,hg,hc,_,_,ht⟩
 ·exact ⟨none,0,by rw [h0],by omega,fun j hj=>by omega⟩
 ·refine ⟨some ⟨g,0,none⟩,cap,rfl,hc,fun j hj=>⟨g,rfl,(Array.getElem?_eq_some_iff.1 hg).1,?_⟩⟩
  have hc2:=h.cells (g:=g) rfl j us[j] (List.getElem?_eq_getElem hj)
  have e2 : (⟨g,0,none⟩ : Addr).add j = ⟨g,j,none⟩:=by unfold Addr.add; split <;> simp_all
  rw [e2] at hc2;exact hc2
end Ma
end Go.Proofs.YtkhipgcgcbhjoaaGreat
