import Derived.Test.YtkhipgcgcbhjoaaGreatDn21
set_option maxRecDepth 100000
set_option maxHeartbeats 8000000
namespace Go.Proofs.YtkhipgcgcbhjoaaGreat
namespace Nf
open Go.RowKit Od Pr Ha
theorem gr_nn (M : List Int) : 0 <= gr clsP M:=(gr_ge clsP M 0).1
theorem comp_take {zs : List Int} {k : Nat} (h : k < zs.length) : (zs.take (k + 1)).foldl (stepC clsP) ([],none,[]) = stepC clsP ((zs.take k).foldl (stepC clsP) ([],none,[])) zs[k]:=by rw [List.take_succ_eq_append_getElem h,List.foldl_append]; rfl
theorem ow_some {w w1 : World} {B : Nat} {v : Value} {L : List Int} (h : Ow w w1 B v L) (hL : 0 < L.length) : ∃ g cp,v = .slice (some ⟨g,0,none⟩) L.length cp:=by
 rcases h.1.2 with ⟨_,h2⟩ | ⟨g,cap,cur,e,_⟩
 ·omega
 ·exact ⟨g,cap,e⟩
theorem compose_any {w : World} {f b p d u s : Nat} (hF : Fm w f b p d u s) {v : Value} {zs : List Int} (hS : Sl .i32 w v zs) (hz : ∀ z ∈ zs,I32 z) (hn : zs.length <= 1000000) :
 Calls Tryz.prog 98 #[.pointer (some ⟨f,0,none⟩),v] w fun e w'=>∃ v',e = .returned v' ∧ Sl .i32 w' v' (compP clsP zs) ∧ Below w.heap.size w w':=by
 obtain ⟨ao,cap,rfl,hS⟩:=hS
 have HF:=hid hF
 have HS:=hid hS
 have HZ:=hid hz
 generalize hlen : zs.length = len at hn
 have HLn:=hid hlen
 clear hS hF hz hlen;go_enter Tryz.func98,Tryz.ntmps98
 go_wp2_with fail;go_loopg [5,6,7,16] len (fun g vo vs vg vi wr=>∃ k : Nat,vi = .int .i64 k ∧ k <= len ∧ g = len - k ∧ vs = .int .i64 (stI ((zs.take k).foldl (stepC clsP) ([],none,[]))) ∧ vg = .int .i64 (gr clsP ((zs.take k).foldl (stepC clsP) ([],none,[])).2.2) ∧ Hid (CI w wr vo (outC ((zs.take k).foldl (stepC clsP) ([],none,[]))) k))
 case atStart=>exact ⟨0,rfl,Nat.zero_le _,rfl,rfl,rfl,⟨World.ownsRow_nil _ _ _ _,Below.refl _ _,Nat.le_refl _,Nat.le_refl _⟩,fun y hy=>by simp [outC] at hy,Nat.le_refl _⟩
 case round =>
  obtain ⟨k,rfl,hk,hg,rfl,rfl,H⟩:=hrel
  have HG:=hid hg
  clear hg;by_cases hlt : k < len
  ·have hlx : k < zs.length:=by rw [HLn.out]; exact hlt
   obtain ⟨bb,off,e0,hb,c1⟩:=HS.out.at_ k hlx
   subst e0;have d1:=(H.out.1.2.1.cell (p:=⟨bb,off + k,none⟩) hb).trans c1
   have HE:=hid (comp_take hlx);have hr : Hid (I32 zs[k]):=HZ.out _ (List.getElem_mem hlx)
   have hcf:=(HF.out.step H.out.1.2.1).cells.1
   have HCl:=hid (cls_any (HF.out.step H.out.1.2.1).bk zs[k]);have hcr:=(cls_bd zs[k]).1
   have z1 : (k : Int) < (len : Int):=by omega
   clear c1;generalize zs[k] = r at *;generalize hSS : (zs.take k).foldl (stepC clsP) ([],none,[]) = S at *;clear hSS;obtain ⟨A,o,M⟩:=S
   have hg0:=gr_nn M
   have HGr : Hid (gr clsP M = gr clsP M):=rfl
   cases o with
   | none =>
    have HT : Hid (tryC clsP (A,none,M) r = false):=rfl
    have HLL : Hid (outC (A,none,M) = outC (A,none,M)):=rfl
    simp only [stI]
    obtain ⟨ao2,cp,hvo⟩:=Od.own_slice H.out.1.1
    subst hvo;have hnk:=H.out.2.2
    generalize hnn : (outC (A,none,M)).length = n at *;have HNn:=hid hnn
    clear hnn;by_cases h0 : 0 < gr clsP M
    ·by_cases h1 : clsP r <= gr clsP M
     ·have hdd:=True.intro
      by_cases hc : clsP r = 0
      ·have HC0:=hid hc
       have HSt:=hid (step_zero HT.out HC0.out);have HS2 : Hid (stI (stepC clsP (A,none,M) r) = (n : Int) ∧ gr clsP (stepC clsP (A,none,M) r).2.2 = 0):=⟨by rw [HSt.out.2.1,HNn.out],HSt.out.2.2⟩
       have HS3 : Hid (outC (stepC clsP (A,none,M) r) = outC (A,none,M) ++ [r]):=HSt.out.1
       clear HSt;generalize gr clsP M = gm at *;generalize clsP r = cr at *;subst hc;go_wp2_with (first | (go_at_call 153; refine HCl.out.mono ?_; rintro e w1 ⟨rfl,hb1⟩; have HI:=hid (H.out.step hb1); clear hb1) | (at_builtin; refine app_i32 rfl (.tmp 61) (.tmp 63) rfl w1 w.heap.size n _ (ivs .i32 (outC (A,none,M))) r rfl w1.heap.size rfl rfl (by have:=HI.out.1.1; rw [HNn.out] at this; exact this) (by omega) HI.out.1.2.2.2 (fun v2 w2 h3 h4=>?_); have HP:=hid (HI.out.put HNn.out hr.out h3 h4); clear h3 h4))
       have HP2 : Hid (CI w w2 v2 (outC (stepC clsP (A,none,M) r)) (k + 1)):=by show CI _ _ _ _ _; rw [HS3.out]; exact HP.out
       clear HP;go_roundg (len - (k + 1))
       case measure=>rw [HG.out]; omega
       case rel=>exact ⟨k + 1,by go_num,by omega,rfl,by rw [HE.out,HS2.out.1],by rw [HE.out,HS2.out.2] <;> (refine int_eq ?_; omega),by rw [HE.out]; exact HP2.out⟩
      ·have HC0:=hid hc
       have hc2 : (clsP r == 0) = false:=by simpa using hc
       have hm : ¬ clsP r > gr clsP M:=by omega
       have hm' : ¬ gr clsP M < clsP r:=by omega
       have HSt:=hid (step_mark HT.out HC0.out);have HS2 : Hid (stI (stepC clsP (A,none,M) r) = -1 ∧ gr clsP (stepC clsP (A,none,M) r).2.2 = gr clsP M):=⟨HSt.out.2.1,by rw [HSt.out.2.2]; exact if_neg hm'⟩
       have HS3 : Hid (outC (stepC clsP (A,none,M) r) = outC (A,none,M) ++ [r]):=HSt.out.1
       clear HSt;generalize gr clsP M = gm at *;generalize clsP r = cr at *;go_wp2_with (first | (go_at_call 153; refine HCl.out.mono ?_; rintro e w1 ⟨rfl,hb1⟩; have HI:=hid (H.out.step hb1); clear hb1) | (at_builtin; refine app_i32 rfl (.tmp 61) (.tmp 63) rfl w1 w.heap.size n _ (ivs .i32 (outC (A,none,M))) r rfl w1.heap.size rfl rfl (by have:=HI.out.1.1; rw [HNn.out] at this; exact this) (by omega) HI.out.1.2.2.2 (fun v2 w2 h3 h4=>?_); have HP:=hid (HI.out.put HNn.out hr.out h3 h4); clear h3 h4))
       have HP2 : Hid (CI w w2 v2 (outC (stepC clsP (A,none,M) r)) (k + 1)):=by show CI _ _ _ _ _; rw [HS3.out]; exact HP.out
       clear HP;go_roundg (len - (k + 1))
       case measure=>rw [HG.out]; omega
       case rel=>exact ⟨k + 1,by go_num,by omega,rfl,by rw [HE.out,HS2.out.1],by rw [HE.out,HS2.out.2] <;> (refine int_eq ?_; omega),by rw [HE.out]; exact HP2.out⟩
     ·have h1' : decide (clsP r <= gr clsP M) = false:=decide_eq_false h1
      have hc : ¬ clsP r = 0:=by omega
      have HC0:=hid hc
      have hc2 : (clsP r == 0) = false:=by simpa using hc
      have hm' : gr clsP M < clsP r:=by omega
      have HSt:=hid (step_mark HT.out HC0.out);have HS2 : Hid (stI (stepC clsP (A,none,M) r) = -1 ∧ gr clsP (stepC clsP (A,none,M) r).2.2 = clsP r):=⟨HSt.out.2.1,by rw [HSt.out.2.2]; exact if_pos hm'⟩
      have HS3 : Hid (outC (stepC clsP (A,none,M) r) = outC (A,none,M) ++ [r]):=HSt.out.1
      clear HSt;generalize gr clsP M = gm at *;generalize clsP r = cr at *;go_wp2_with (first | (go_at_call 153; refine HCl.out.mono ?_; rintro e w1 ⟨rfl,hb1⟩; have HI:=hid (H.out.step hb1); clear hb1) | (at_builtin; refine app_i32 rfl (.tmp 61) (.tmp 63) rfl w1 w.heap.size n _ (ivs .i32 (outC (A,none,M))) r rfl w1.heap.size rfl rfl (by have:=HI.out.1.1; rw [HNn.out] at this; exact this) (by omega) HI.out.1.2.2.2 (fun v2 w2 h3 h4=>?_); have HP:=hid (HI.out.put HNn.out hr.out h3 h4); clear h3 h4))
      have HP2 : Hid (CI w w2 v2 (outC (stepC clsP (A,none,M) r)) (k + 1)):=by show CI _ _ _ _ _; rw [HS3.out]; exact HP.out
      clear HP;go_roundg (len - (k + 1))
      case measure=>rw [HG.out]; omega
      case rel=>exact ⟨k + 1,by go_num,by omega,rfl,by rw [HE.out,HS2.out.1],by rw [HE.out,HS2.out.2] <;> (refine int_eq ?_; omega),by rw [HE.out]; exact HP2.out⟩
    ·have e0 : gr clsP M = 0:=by omega
     by_cases hc : clsP r = 0
     ·have HC0:=hid hc
      have HSt:=hid (step_zero HT.out HC0.out);have HS2 : Hid (stI (stepC clsP (A,none,M) r) = (n : Int) ∧ gr clsP (stepC clsP (A,none,M) r).2.2 = 0):=⟨by rw [HSt.out.2.1,HNn.out],HSt.out.2.2⟩
      have HS3 : Hid (outC (stepC clsP (A,none,M) r) = outC (A,none,M) ++ [r]):=HSt.out.1
      clear HSt;generalize gr clsP M = gm at *;generalize clsP r = cr at *;subst hc;go_wp2_with (first | (go_at_call 153; refine HCl.out.mono ?_; rintro e w1 ⟨rfl,hb1⟩; have HI:=hid (H.out.step hb1); clear hb1) | (at_builtin; refine app_i32 rfl (.tmp 61) (.tmp 63) rfl w1 w.heap.size n _ (ivs .i32 (outC (A,none,M))) r rfl w1.heap.size rfl rfl (by have:=HI.out.1.1; rw [HNn.out] at this; exact this) (by omega) HI.out.1.2.2.2 (fun v2 w2 h3 h4=>?_); have HP:=hid (HI.out.put HNn.out hr.out h3 h4); clear h3 h4))
      have HP2 : Hid (CI w w2 v2 (outC (stepC clsP (A,none,M) r)) (k + 1)):=by show CI _ _ _ _ _; rw [HS3.out]; exact HP.out
      clear HP;go_roundg (len - (k + 1))
      case measure=>rw [HG.out]; omega
      case rel=>exact ⟨k + 1,by go_num,by omega,rfl,by rw [HE.out,HS2.out.1],by rw [HE.out,HS2.out.2] <;> (refine int_eq ?_; omega),by rw [HE.out]; exact HP2.out⟩
     ·have HC0:=hid hc
      have hc2 : (clsP r == 0) = false:=by simpa using hc
      have hm' : gr clsP M < clsP r:=by omega
      have HSt:=hid (step_mark HT.out HC0.out);have HS2 : Hid (stI (stepC clsP (A,none,M) r) = -1 ∧ gr clsP (stepC clsP (A,none,M) r).2.2 = clsP r):=⟨HSt.out.2.1,by rw [HSt.out.2.2]; exact if_pos hm'⟩
      have HS3 : Hid (outC (stepC clsP (A,none,M) r) = outC (A,none,M) ++ [r]):=HSt.out.1
      clear HSt;generalize gr clsP M = gm at *;generalize clsP r = cr at *;go_wp2_with (first | (go_at_call 153; refine HCl.out.mono ?_; rintro e w1 ⟨rfl,hb1⟩; have HI:=hid (H.out.step hb1); clear hb1) | (at_builtin; refine app_i32 rfl (.tmp 61) (.tmp 63) rfl w1 w.heap.size n _ (ivs .i32 (outC (A,none,M))) r rfl w1.heap.size rfl rfl (by have:=HI.out.1.1; rw [HNn.out] at this; exact this) (by omega) HI.out.1.2.2.2 (fun v2 w2 h3 h4=>?_); have HP:=hid (HI.out.put HNn.out hr.out h3 h4); clear h3 h4))
      have HP2 : Hid (CI w w2 v2 (outC (stepC clsP (A,none,M) r)) (k + 1)):=by show CI _ _ _ _ _; rw [HS3.out]; exact HP.out
      clear HP;go_roundg (len - (k + 1))
      case measure=>rw [HG.out]; omega
      case rel=>exact ⟨k + 1,by go_num,by omega,rfl,by rw [HE.out,HS2.out.1],by rw [HE.out,HS2.out.2] <;> (refine int_eq ?_; omega),by rw [HE.out]; exact HP2.out⟩
   | some x =>
    have hx : Hid (I32 x):=H.out.2.1 x (by simp [outC])
    simp only [stI]
    obtain ⟨g0,cp,hvo⟩:=ow_some H.out.1 (by simp [outC] <;> omega)
    subst hvo;have hnk:=H.out.2.2
    have han : A.length < (outC (A,some x,M)).length:=by simp [outC] <;> omega
    have HC : Hid (∀ w1,Ow w w1 w.heap.size (.slice (some ⟨g0,0,none⟩) (outC (A,some x,M)).length cp) (outC (A,some x,M)) -> w1.cell? ⟨g0,A.length,none⟩ = some (.int .i32 x)):=by
     refine hid (fun w1 h=>?_)
     have:=h.1.cellAt A.length (by simp [outC] <;> omega)
     rw [this];simp [outC,ivs]
    have HFz : Hid (∀ w1,Ow w w1 w.heap.size (.slice (some ⟨g0,0,none⟩) (outC (A,some x,M)).length cp) (outC (A,some x,M)) -> w1.frozen? ⟨g0,A.length,none⟩ = false):=hid (fun w1 h=>h.1.frozenAt A.length)
    generalize hnn : (outC (A,some x,M)).length = n at *;have HNn:=hid hnn
    clear hnn;have za : (A.length : Int) < (n : Int):=by omega
    have HTr : Hid (tryC clsP (A,some x,M) r = (!(decide (0 < gr clsP M) && decide (clsP r <= gr clsP M)) && mkB x r)):=rfl
    have HTg:=hid (fun (w1 : World) (h : Fm w1 f b p d u s)=>together_any h hx.out hr.out)
    have HAl : Hid (∃ al,A.length = al):=⟨_,rfl⟩
    generalize hmk : mkB x r = q at *;have HMk:=hid hmk
    clear hmk;by_cases h0 : 0 < gr clsP M
    ·by_cases h1 : clsP r <= gr clsP M
     ·have HT : Hid (tryC clsP (A,some x,M) r = false):=by show _ = _; rw [HTr.out]; simp [h0,h1]
      by_cases hc : clsP r = 0
      ·have HC0:=hid hc
       have HSt:=hid (step_zero HT.out HC0.out);have HS2 : Hid (stI (stepC clsP (A,some x,M) r) = (n : Int) ∧ gr clsP (stepC clsP (A,some x,M) r).2.2 = 0):=⟨by rw [HSt.out.2.1,HNn.out],HSt.out.2.2⟩
       have HS3 : Hid (outC (stepC clsP (A,some x,M) r) = outC (A,some x,M) ++ [r]):=HSt.out.1
       clear HSt;generalize gr clsP M = gm at *;generalize clsP r = cr at *;subst hc;go_wp2_with (first | (go_at_call 153; refine HCl.out.mono ?_; rintro e w1 ⟨rfl,hb1⟩; have HI:=hid (H.out.step hb1); clear hb1; have c2:=HC.out w1 HI.out.1; have f2:=HFz.out w1 HI.out.1) | (go_at_call 154; refine (HTg.out w1 (HF.out.step HI.out.1.2.1)).mono ?_; rintro e w9 ⟨rfl,hw9⟩; rw [hw9]; clear hw9 w9) | (at_builtin; refine app_i32 rfl (.tmp 61) (.tmp 63) rfl w1 w.heap.size n _ (ivs .i32 (outC (A,some x,M))) r rfl w1.heap.size rfl rfl (by have:=HI.out.1.1; rw [HNn.out] at this; exact this) (by omega) HI.out.1.2.2.2 (fun v2 w2 h3 h4=>?_); have HP:=hid (HI.out.put HNn.out hr.out h3 h4); clear h3 h4))
       have HP2 : Hid (CI w w2 v2 (outC (stepC clsP (A,some x,M) r)) (k + 1)):=by show CI _ _ _ _ _; rw [HS3.out]; exact HP.out
       clear HP;go_roundg (len - (k + 1))
       case measure=>rw [HG.out]; omega
       case rel=>exact ⟨k + 1,by go_num,by omega,rfl,by rw [HE.out,HS2.out.1],by rw [HE.out,HS2.out.2] <;> (refine int_eq ?_; omega),by rw [HE.out]; exact HP2.out⟩
      ·have HC0:=hid hc
       have hc2 : (clsP r == 0) = false:=by simpa using hc
       have hm : ¬ clsP r > gr clsP M:=by omega
       have hm' : ¬ gr clsP M < clsP r:=by omega
       have HSt:=hid (step_mark HT.out HC0.out);have HS2 : Hid (stI (stepC clsP (A,some x,M) r) = (A.length : Int) ∧ gr clsP (stepC clsP (A,some x,M) r).2.2 = gr clsP M):=⟨HSt.out.2.1,by rw [HSt.out.2.2]; exact if_neg hm'⟩
       have HS3 : Hid (outC (stepC clsP (A,some x,M) r) = outC (A,some x,M) ++ [r]):=HSt.out.1
       clear HSt;generalize gr clsP M = gm at *;generalize clsP r = cr at *;go_wp2_with (first | (go_at_call 153; refine HCl.out.mono ?_; rintro e w1 ⟨rfl,hb1⟩; have HI:=hid (H.out.step hb1); clear hb1; have c2:=HC.out w1 HI.out.1; have f2:=HFz.out w1 HI.out.1) | (go_at_call 154; refine (HTg.out w1 (HF.out.step HI.out.1.2.1)).mono ?_; rintro e w9 ⟨rfl,hw9⟩; rw [hw9]; clear hw9 w9) | (at_builtin; refine app_i32 rfl (.tmp 61) (.tmp 63) rfl w1 w.heap.size n _ (ivs .i32 (outC (A,some x,M))) r rfl w1.heap.size rfl rfl (by have:=HI.out.1.1; rw [HNn.out] at this; exact this) (by omega) HI.out.1.2.2.2 (fun v2 w2 h3 h4=>?_); have HP:=hid (HI.out.put HNn.out hr.out h3 h4); clear h3 h4))
       have HP2 : Hid (CI w w2 v2 (outC (stepC clsP (A,some x,M) r)) (k + 1)):=by show CI _ _ _ _ _; rw [HS3.out]; exact HP.out
       clear HP;go_roundg (len - (k + 1))
       case measure=>rw [HG.out]; omega
       case rel=>exact ⟨k + 1,by go_num,by omega,rfl,by rw [HE.out,HS2.out.1],by rw [HE.out,HS2.out.2] <;> (refine int_eq ?_; omega),by rw [HE.out]; exact HP2.out⟩
     ·have h1' : decide (clsP r <= gr clsP M) = false:=decide_eq_false h1
      have hc : ¬ clsP r = 0:=by omega
      have HC0:=hid hc
      have hc2 : (clsP r == 0) = false:=by simpa using hc
      have hm' : gr clsP M < clsP r:=by omega
      cases q with
      | true =>
       have HT1 : Hid (tryC clsP (A,some x,M) r = true):=by show _ = _; rw [HTr.out]; simp [h1]
       generalize hgm : gr clsP M = gm at *;have HGm:=hid hgm
       clear hgm;have HSt : Hid (stepC clsP (A,some x,M) r = (A,some (mkI x r),M)):=step_join HT1.out
       have HMv : Hid (mkV x r = mkI x r ∧ I32 (mkI x r)):=⟨by rw [mkV,if_pos HMk.out],mk_I32 x r HMk.out⟩
       rw [HMv.out.1] at HTg;generalize mkI x r = z at *;go_wp2_with (first | (go_at_call 153; refine HCl.out.mono ?_; rintro e w1 ⟨rfl,hb1⟩; have HI:=hid (H.out.step hb1); clear hb1; have c2:=HC.out w1 HI.out.1; have f2:=HFz.out w1 HI.out.1) | (go_at_call 154; refine (HTg.out w1 (HF.out.step HI.out.1.2.1)).mono ?_; rintro e w9 ⟨rfl,hw9⟩; rw [hw9]; clear hw9 w9))
       have HP : Hid (CI w (w1.setCell ⟨g0,A.length,none⟩ (.int .i32 z)) (.slice (some ⟨g0,0,none⟩) n cp) (outC (A,some z,M)) (k + 1)):=HI.out.set HNn.out HMv.out.2
       go_roundg (len - (k + 1))
       case measure=>rw [HG.out]; omega
       case rel=>exact ⟨k + 1,by go_num,by omega,rfl,by rw [HE.out,HSt.out]; rfl,by rw [HE.out,HSt.out]; exact int_eq (by show _ = gr clsP M; have:=HGm.out; omega),by rw [HE.out,HSt.out]; exact HP.out⟩
      | false =>
       have HT : Hid (tryC clsP (A,some x,M) r = false):=by show _ = _; rw [HTr.out]; simp
       have HSt:=hid (step_mark HT.out HC0.out);have HS2 : Hid (stI (stepC clsP (A,some x,M) r) = (A.length : Int) ∧ gr clsP (stepC clsP (A,some x,M) r).2.2 = clsP r):=⟨HSt.out.2.1,by rw [HSt.out.2.2]; exact if_pos hm'⟩
       have HS3 : Hid (outC (stepC clsP (A,some x,M) r) = outC (A,some x,M) ++ [r]):=HSt.out.1
       clear HSt;generalize gr clsP M = gm at *;generalize clsP r = cr at *;go_wp2_with (first | (go_at_call 153; refine HCl.out.mono ?_; rintro e w1 ⟨rfl,hb1⟩; have HI:=hid (H.out.step hb1); clear hb1; have c2:=HC.out w1 HI.out.1; have f2:=HFz.out w1 HI.out.1) | (go_at_call 154; refine (HTg.out w1 (HF.out.step HI.out.1.2.1)).mono ?_; rintro e w9 ⟨rfl,hw9⟩; rw [hw9]; clear hw9 w9) | (at_builtin; refine app_i32 rfl (.tmp 61) (.tmp 63) rfl w1 w.heap.size n _ (ivs .i32 (outC (A,some x,M))) r rfl w1.heap.size rfl rfl (by have:=HI.out.1.1; rw [HNn.out] at this; exact this) (by omega) HI.out.1.2.2.2 (fun v2 w2 h3 h4=>?_); have HP:=hid (HI.out.put HNn.out hr.out h3 h4); clear h3 h4))
       have HP2 : Hid (CI w w2 v2 (outC (stepC clsP (A,some x,M) r)) (k + 1)):=by show CI _ _ _ _ _; rw [HS3.out]; exact HP.out
       clear HP;go_roundg (len - (k + 1))
       case measure=>rw [HG.out]; omega
       case rel=>exact ⟨k + 1,by go_num,by omega,rfl,by rw [HE.out,HS2.out.1],by rw [HE.out,HS2.out.2] <;> (refine int_eq ?_; omega),by rw [HE.out]; exact HP2.out⟩
    ·have e0 : gr clsP M = 0:=by omega
     cases q with
     | true =>
      have HT1 : Hid (tryC clsP (A,some x,M) r = true):=by show _ = _; rw [HTr.out]; simp [h0]
      generalize hgm : gr clsP M = gm at *;have HGm:=hid hgm
      clear hgm;have HSt : Hid (stepC clsP (A,some x,M) r = (A,some (mkI x r),M)):=step_join HT1.out
      have HMv : Hid (mkV x r = mkI x r ∧ I32 (mkI x r)):=⟨by rw [mkV,if_pos HMk.out],mk_I32 x r HMk.out⟩
      rw [HMv.out.1] at HTg;generalize mkI x r = z at *;go_wp2_with (first | (go_at_call 153; refine HCl.out.mono ?_; rintro e w1 ⟨rfl,hb1⟩; have HI:=hid (H.out.step hb1); clear hb1; have c2:=HC.out w1 HI.out.1; have f2:=HFz.out w1 HI.out.1) | (go_at_call 154; refine (HTg.out w1 (HF.out.step HI.out.1.2.1)).mono ?_; rintro e w9 ⟨rfl,hw9⟩; rw [hw9]; clear hw9 w9))
      have HP : Hid (CI w (w1.setCell ⟨g0,A.length,none⟩ (.int .i32 z)) (.slice (some ⟨g0,0,none⟩) n cp) (outC (A,some z,M)) (k + 1)):=HI.out.set HNn.out HMv.out.2
      go_roundg (len - (k + 1))
      case measure=>rw [HG.out]; omega
      case rel=>exact ⟨k + 1,by go_num,by omega,rfl,by rw [HE.out,HSt.out]; rfl,by rw [HE.out,HSt.out]; exact int_eq (by show _ = gr clsP M; have:=HGm.out; omega),by rw [HE.out,HSt.out]; exact HP.out⟩
     | false =>
      have HT : Hid (tryC clsP (A,some x,M) r = false):=by show _ = _; rw [HTr.out]; simp
      by_cases hc : clsP r = 0
      ·have HC0:=hid hc
       have HSt:=hid (step_zero HT.out HC0.out);have HS2 : Hid (stI (stepC clsP (A,some x,M) r) = (n : Int) ∧ gr clsP (stepC clsP (A,some x,M) r).2.2 = 0):=⟨by rw [HSt.out.2.1,HNn.out],HSt.out.2.2⟩
       have HS3 : Hid (outC (stepC clsP (A,some x,M) r) = outC (A,some x,M) ++ [r]):=HSt.out.1
       clear HSt;generalize gr clsP M = gm at *;generalize clsP r = cr at *;subst hc;go_wp2_with (first | (go_at_call 153; refine HCl.out.mono ?_; rintro e w1 ⟨rfl,hb1⟩; have HI:=hid (H.out.step hb1); clear hb1; have c2:=HC.out w1 HI.out.1; have f2:=HFz.out w1 HI.out.1) | (go_at_call 154; refine (HTg.out w1 (HF.out.step HI.out.1.2.1)).mono ?_; rintro e w9 ⟨rfl,hw9⟩; rw [hw9]; clear hw9 w9) | (at_builtin; refine app_i32 rfl (.tmp 61) (.tmp 63) rfl w1 w.heap.size n _ (ivs .i32 (outC (A,some x,M))) r rfl w1.heap.size rfl rfl (by have:=HI.out.1.1; rw [HNn.out] at this; exact this) (by omega) HI.out.1.2.2.2 (fun v2 w2 h3 h4=>?_); have HP:=hid (HI.out.put HNn.out hr.out h3 h4); clear h3 h4))
       have HP2 : Hid (CI w w2 v2 (outC (stepC clsP (A,some x,M) r)) (k + 1)):=by show CI _ _ _ _ _; rw [HS3.out]; exact HP.out
       clear HP;go_roundg (len - (k + 1))
       case measure=>rw [HG.out]; omega
       case rel=>exact ⟨k + 1,by go_num,by omega,rfl,by rw [HE.out,HS2.out.1],by rw [HE.out,HS2.out.2] <;> (refine int_eq ?_; omega),by rw [HE.out]; exact HP2.out⟩
      ·have HC0:=hid hc
       have hc2 : (clsP r == 0) = false:=by simpa using hc
       have hm' : gr clsP M < clsP r:=by omega
       have HSt:=hid (step_mark HT.out HC0.out);have HS2 : Hid (stI (stepC clsP (A,some x,M) r) = (A.length : Int) ∧ gr clsP (stepC clsP (A,some x,M) r).2.2 = clsP r):=⟨HSt.out.2.1,by rw [HSt.out.2.2]; exact if_pos hm'⟩
       have HS3 : Hid (outC (stepC clsP (A,some x,M) r) = outC (A,some x,M) ++ [r]):=HSt.out.1
       clear HSt;generalize gr clsP M = gm at *;generalize clsP r = cr at *;go_wp2_with (first | (go_at_call 153; refine HCl.out.mono ?_; rintro e w1 ⟨rfl,hb1⟩; have HI:=hid (H.out.step hb1); clear hb1; have c2:=HC.out w1 HI.out.1; have f2:=HFz.out w1 HI.out.1) | (go_at_call 154; refine (HTg.out w1 (HF.out.step HI.out.1.2.1)).mono ?_; rintro e w9 ⟨rfl,hw9⟩; rw [hw9]; clear hw9 w9) | (at_builtin; refine app_i32 rfl (.tmp 61) (.tmp 63) rfl w1 w.heap.size n _ (ivs .i32 (outC (A,some x,M))) r rfl w1.heap.size rfl rfl (by have:=HI.out.1.1; rw [HNn.out] at this; exact this) (by omega) HI.out.1.2.2.2 (fun v2 w2 h3 h4=>?_); have HP:=hid (HI.out.put HNn.out hr.out h3 h4); clear h3 h4))
       have HP2 : Hid (CI w w2 v2 (outC (stepC clsP (A,some x,M) r)) (k + 1)):=by show CI _ _ _ _ _; rw [HS3.out]; exact HP.out
       clear HP;go_roundg (len - (k + 1))
       case measure=>rw [HG.out]; omega
       case rel=>exact ⟨k + 1,by go_num,by omega,rfl,by rw [HE.out,HS2.out.1],by rw [HE.out,HS2.out.2] <;> (refine int_eq ?_; omega),by rw [HE.out]; exact HP2.out⟩
  ·have e : k = len:=by omega
   subst e;have HW : Hid (Ow w wr w.heap.size u5 (compP clsP zs)):=by
    have:=H.out.1
    rw [<- HLn.out,List.take_length] at this;exact this
   go_wp2_with fail;go_ret;exact ⟨_,rfl,own_sl HW.out.1,HW.out.2.1⟩
theorem ins_mem (c : Int -> Int) (x : Int) : ∀ (l : List Int),(∀ y,y ∈ ins c x l -> y = x ∨ y ∈ l) ∧ (ins c x l).length = l.length + 1
 | []=>⟨fun y h=>by simp [ins] at h; exact .inl h,by simp [ins]⟩
 | z :: l=>by
  obtain ⟨h1,h2⟩:=ins_mem c x l
  unfold ins;split
  ·refine ⟨fun y h=>?_,by simp [h2]⟩
   rcases List.mem_cons.1 h with h | h
   ·exact .inr (by simp [h])
   ·rcases h1 y h with h | h
    ·exact .inl h
    ·exact .inr (by simp [h])
  ·exact ⟨fun y h=>List.mem_cons.1 h,by simp⟩
theorem srt_len (c : Int -> Int) : ∀ l : List Int,(srt c l).length = l.length
 | []=>rfl
 | x :: l=>by
  simp only [srt]
  rw [(ins_mem c x _).2,srt_len c l,List.length_cons]
theorem srt_mem (c : Int -> Int) : ∀ (l : List Int) (y : Int),y ∈ srt c l -> y ∈ l
 | [],y,h=>by simp [srt] at h
 | x :: l,y,h=>by
  simp only [srt] at h
  rcases (ins_mem c x _).1 y h with h | h
  ·simp [h]
  ·simp [srt_mem c l y h]
theorem nfd_I32 (c : Int -> Int) (zs : List Int) (hz : ∀ z ∈ zs,I32 z) : ∀ y ∈ nfdP c zs,I32 y:=by
 intro y hy
 have:=srt_mem c _ y hy
 obtain ⟨x,hx,h⟩:=List.mem_flatMap.1 this
 rw [<- ap5] at h;exact apF_I32 5 x (hz x hx) y h
theorem step_I32 (S : CS) (r : Int) (hr : I32 r) (h : ∀ y ∈ outC S,I32 y) : (∀ y ∈ outC (stepC clsP S r),I32 y) ∧ (outC (stepC clsP S r)).length <= (outC S).length + 1:=by
 by_cases ht : tryC clsP S r = true
 ·obtain ⟨A,o,M⟩:=S
  cases o with
  | none=>cases ht
  | some x =>
   rw [step_join ht];have hm : mkB x r = true:=by
    have:=ht
    simp only [tryC,Bool.and_eq_true] at this
    exact this.2
   have hI:=mk_I32 x r hm
   refine ⟨fun y hy=>?_,by simp [outC]⟩
   by_cases e : y = mkI x r
   ·rw [e]; exact hI
   ·refine h y ?_
    simp [outC] at hy ⊢
    rcases hy with hy | hy | hy
    ·exact .inl hy
    ·exact (e hy).elim
    ·exact .inr (.inr hy)
 ·rw [outC_no clsP S r (by simpa using ht)];refine ⟨fun y hy=>?_,by simp⟩
  rcases List.mem_append.1 hy with hy | hy
  ·exact h y hy
  ·simp at hy; subst hy; exact hr
theorem fold_I32 : ∀ (l : List Int) (S : CS),(∀ z ∈ l,I32 z) -> (∀ y ∈ outC S,I32 y) -> (∀ y ∈ outC (l.foldl (stepC clsP) S),I32 y) ∧ (outC (l.foldl (stepC clsP) S)).length <= (outC S).length + l.length
 | [],S,_,h=>⟨h,by simp⟩
 | r :: l,S,hz,h=>by
  obtain ⟨h1,h2⟩:=step_I32 S r (hz r (by simp)) h
  obtain ⟨h3,h4⟩:=fold_I32 l (stepC clsP S r) (fun z hz'=>hz z (by simp [hz'])) h1
  refine ⟨h3,?_⟩
  rw [List.foldl_cons,List.length_cons];omega
theorem comp_I32 (zs : List Int) (hz : ∀ z ∈ zs,I32 z) : (∀ y ∈ compP clsP zs,I32 y) ∧ (compP clsP zs).length <= zs.length:=by
 obtain ⟨h1,h2⟩:=fold_I32 zs ([],none,[]) hz (fun y hy=>by simp [outC] at hy)
 refine ⟨h1,?_⟩
 have e : (outC (([],none,[]) : CS)).length = 0:=rfl
 rw [e,Nat.zero_add] at h2;exact h2
theorem nfd_len (zs : List Int) : (nfdP clsP zs).length <= 96 * zs.length:=by
 have:=flat_len zs
 unfold nfdP;rw [srt_len];exact this
theorem nfc_I32 (zs : List Int) (hz : ∀ z ∈ zs,I32 z) : (∀ y ∈ nfcP clsP zs,I32 y) ∧ (nfcP clsP zs).length <= 96 * zs.length:=by
 obtain ⟨h1,h2⟩:=comp_I32 _ (nfd_I32 clsP zs hz)
 exact ⟨h1,Nat.le_trans h2 (nfd_len zs)⟩
theorem nfc_any {w : World} {f b p d u s : Nat} (hF : Fm w f b p d u s) {v : Value} {zs : List Int} (hS : Sl .i32 w v zs) (hz : ∀ z ∈ zs,I32 z) (hn : zs.length <= 10000) :
 Calls Tryz.prog 48 #[.pointer (some ⟨f,0,none⟩),v] w fun e w'=>∃ v',e = .returned v' ∧ Sl .i32 w' v' (nfcP clsP zs) ∧ Below w.heap.size w w':=by
 have HN:=hid (nfd_any hF hS hz hn);have HC:=hid (fun (w1 : World) (v1 : Value) (h : Below w.heap.size w w1) (h1 : Sl .i32 w1 v1 (nfdP clsP zs))=>compose_any (hF.step h) h1 (nfd_I32 clsP zs hz) (Nat.le_trans (nfd_len zs) (by omega)))
 clear hF hS hz hn;go_enter Tryz.func48,Tryz.ntmps48
 go_wp2_with (first | (go_at_call 99; refine HN.out.mono ?_; rintro e w1 ⟨v1,rfl,h1,h2⟩; have H1:=hid (And.intro h1 h2); clear h1 h2) | (go_at_call 98; refine (HC.out w1 v1 H1.out.2 H1.out.1).mono ?_; rintro e w2 ⟨v2,rfl,h1,h2⟩; have H2:=hid (And.intro h1 h2); clear h1 h2))
 go_ret;exact ⟨_,rfl,H2.out.1,H1.out.2.trans (H2.out.2.mono H1.out.2.size)⟩
theorem new_any' {w : World} {b p d u s : Nat} (hb : Bk w b) (hp : PW w p d u s allP 395) :
 Calls Tryz.prog 39 #[.pointer (some ⟨b,0,none⟩),.pointer (some ⟨p,0,none⟩)] w fun e w'=>∃ f,e = .returned (.pointer (some ⟨f,0,none⟩)) ∧ Fm w' f b p d u s ∧ Below w.heap.size w w':=by
 have HB:=hid hb
 have HP:=hid hp
 have hB : Hid (Below w.heap.size w (w.alloc (.cells #[.pointer (some ⟨b,0,none⟩),.pointer (some ⟨p,0,none⟩)] 137))):=(Below.refl w.heap.size w).alloc (Nat.le_refl _) _
 clear hb hp;go_enter Tryz.func39,Tryz.ntmps39
 go_wp2_with fail;go_ret;exact ⟨_,rfl,⟨heap_alloc_new w _,HB.out.step hB.out,HP.out.step hB.out⟩,hB.out⟩
theorem eq_any (v v' : Value) (zs ys : List Int) (w : World) (h : Sl .i32 w v zs) (h' : Sl .i32 w v' ys) (hn : zs.length <= 1000000000) :
 Calls Tryz.prog 47 #[v,v'] w fun e w'=>e = .returned (.bool (decide (zs = ys))) ∧ Below w.heap.size w w':=by
 obtain ⟨ao,cap,rfl,h⟩:=h
 obtain ⟨ao',cap',rfl,h'⟩:=h'
 have HS:=hid h
 have HS':=hid h'
 clear h h';by_cases hl : zs.length = ys.length
 ·have HL:=hid hl
  have hl1 : zs.length <= ys.length:=by omega
  have hl2 : ys.length <= zs.length:=by omega
  rw [<- hl];clear hl;have hok:=hid (Ok.start w);go_enter Tryz.func47,Tryz.ntmps47
  go_wp2_with fail;go_loopg [13] zs.length (fun g vi wr=>∃ k : Nat,vi = .int .i64 k ∧ k <= zs.length ∧ g = zs.length - k ∧ Hid (zs.take k = ys.take k ∧ Ok w.heap.size w wr))
  case atStart=>exact ⟨0,rfl,Nat.zero_le _,rfl,rfl,hok.out⟩
  case round =>
   obtain ⟨k,rfl,hk,hg,H⟩:=hrel
   have HG:=hid hg
   clear hg hok;by_cases hlt : k < zs.length
   ·obtain ⟨b,off,rfl,hb,hc⟩:=HS.out.at_ k hlt
    obtain ⟨b',off',rfl,hb',hc'⟩:=HS'.out.at_ k (by omega)
    have c1:=((H.out.2.1.cell (p:=⟨b,off + k,none⟩) hb).trans hc)
    have c2:=((H.out.2.1.cell (p:=⟨b',off' + k,none⟩) hb').trans hc')
    have c1d : wr.drew.cell? ⟨b,off + k,none⟩ = some (.int .i32 zs[k]):=c1
    have c2d : wr.drew.cell? ⟨b',off' + k,none⟩ = some (.int .i32 (ys[k]'(by omega))):=c2
    clear hc hc';have hlt' : (k : Int) < (zs.length : Int):=by omega
    have HOD : Hid (Ok w.heap.size w wr.drew):=H.out.2.step ((Below.refl _ _).drew)
    by_cases he : zs[k] = ys[k]'(by omega)
    ·have HT : Hid (zs.take (k + 1) = ys.take (k + 1)):=by
      show _ = _;rw [List.take_succ_eq_append_getElem hlt,List.take_succ_eq_append_getElem (show k < ys.length by omega),H.out.1,he]
     rw [<- he] at c2 c2d
     clear he;generalize zs[k] = z at *;go_wp2_with fail;go_region
     go_wp2_with fail;go_roundg (zs.length - (k + 1))
     case measure=>rw [HG.out]; omega
     case rel=>exact ⟨k + 1,by go_num,by omega,rfl,HT.out,HOD.out⟩
    ·have HT : Hid (¬ zs = ys):=fun e=>he (by simp only [e])
     generalize zs[k] = z at *;generalize ys[k]'(by omega) = y at *;have hne : (z != y) = true:=by simpa using he
     go_wp2_with fail;go_region
     go_wp2_with fail;go_ret;exact ⟨ret_bool (decide_eq_false HT.out).symm,HOD.out.1⟩
   ·have e : k = zs.length:=by omega
    subst e;go_wp2_with fail;go_ret;refine ⟨ret_bool (decide_eq_true ?_).symm,H.out.2.1⟩
    have h1:=H.out.1
    rwa [List.take_length,HL.out,List.take_length] at h1
 ·have hne : ¬ (zs.length : Int) = (ys.length : Int):=by omega
  go_enter Tryz.func47,Tryz.ntmps47
  go_wp2_with fail;go_ret;exact ⟨ret_bool (decide_eq_false (fun e=>hl (by rw [e]))).symm,Below.refl _ _⟩
end Nf
end Go.Proofs.YtkhipgcgcbhjoaaGreat
