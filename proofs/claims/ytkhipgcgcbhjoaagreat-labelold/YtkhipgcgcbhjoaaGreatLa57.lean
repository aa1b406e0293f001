import Derived.Test.YtkhipgcgcbhjoaaGreatLa56
set_option maxRecDepth 1000000
set_option maxHeartbeats 4000000
namespace Go.Proofs.YtkhipgcgcbhjoaaGreat
namespace La
open Go.RowKit Od Nf Pu
theorem rfrom_any (x : ByteArray) (hx : x.size <= 44) (q : Bool) (w : World) :
 Calls Tryz.prog 28 #[.string x,.bool q] w fun e w'=>∃ v,e = .returned (.tuple #[v,.int .i64 (frR (Oc.lowS x) q).1]) ∧ Sl .i64 w' v (frR (Oc.lowS x) q).2 ∧ Below w.heap.size w w':=by
 have HC:=hr (rcoded_any x (by omega) w);have HL:=hr (fun W=>Oc.rlower_any x W (by omega))
 have HO:=hr (Ok.start w);have hsz:=Oc.low_size x
 have hcl : cdS (Oc.lowS x) = cdS x:=by unfold cdS;rw [hsz,low_ext,low_low]
 generalize Oc.lowS x = t at *;by_cases hc : cdS x = true
 ·rw [hc] at HC;have hct : cdS t = true:=hcl.trans hc
  have h4 : 4 <= t.size:=by unfold cdS at hct;rw [Bool.and_eq_true,decide_eq_true_eq] at hct;exact hct.1
  have z4 : (4 : Int) <= t.size:=by omega
  have HD:=hr (fun (i y : Int) (l : List Int) (hy : Hy (bsI (t.extract 4 t.size)) i) (ht : Tel (decP (bsI (t.extract 4 t.size)) i) y l) (W : World)=>rdec_uni (t.extract 4 t.size) (by rw [ByteArray.size_extract]; omega) i y l hy ht W)
  have HP : Hid (deP t = match dcP ((bsI t).drop 4) with | .inl _=>none | .inr l=>some l):=if_pos hct
  have HX:=hr (bsI_ext t 4);have HFr:=hr (fr_ref (t:=t) (q:=q) (by omega))
  have HTo:=hr (fun (W : World) (v : Value) (l : List Int) (hS : Sl .i64 W v l) (hs : l = [] ∨ isSome v) (hI : ∀ y ∈ l,Pr.I32 y) (hn : l.length <= 100)=>rtoold_any hS hs hI hn q)
  have hts : t.size <= 44:=by omega
  have hyI1:=hy_hyI (bsI (t.extract 4 t.size))
  obtain ⟨y,l,hT⟩ : ∃ y l,Tel (dcP ((bsI t).drop 4)) y l:=by
   cases hd : dcP ((bsI t).drop 4) with
   | inl e=>exact ⟨e,[],.inl ⟨rfl,rfl⟩⟩
   | inr l=>exact ⟨0,l,.inr ⟨rfl,rfl⟩⟩
  have hT' : Tel (decP (bsI (t.extract 4 t.size)) (hyI (bsI (t.extract 4 t.size)))) y l:=by rw [HX.out]; exact hT
  have HD2:=hr (HD.out _ y l hyI1 hT');have hxt : (x.size : Int) = (t.size : Int):=by omega
  clear hyI1 hT' HD hcl hct hc h4 hsz;go_enter Tryz.func28,Tryz.ntmps28
  go_wp2_with fail;refine HC.out.mono ?_;rintro e w1 ⟨rfl,hb⟩;replace HO:=hr (HO.out.step hb);clear hb HC;go_wp2_with fail;refine (HL.out _).mono ?_;rintro e w2 ⟨rfl,hb⟩
  replace HO:=hr (HO.out.step hb);clear hb HL;go_wp2_with fail;refine (HD2.out _).mono ?_;rintro e w3 ⟨v,rfl,hS,hb⟩;have HS:=hr hS
  replace HO:=hr (HO.out.step hb);clear hb hS HD2;rcases hT with ⟨hT,rfl⟩ | ⟨hT,rfl⟩
  ·have HE : Hid (frR t q = (12,[])):=by
    show _ = _;unfold frR;rw [HP.out,hT]
   have hy0 : (y != 0) = true:=by simpa using dcP_err hT
   clear hT;go_wp2_with fail;go_ret2;refine ⟨.slice none 0 0,?_,?_,HO.out.1⟩
   ·rw [HE.out]; rfl
   ·rw [HE.out]; exact sl_nil _ _
  ·have hdp : deP t = some l:=by rw [HP.out,hT]
   obtain ⟨hrg,hln,_⟩:=deP_range hdp
   have HE0 : Hid (frR t q = if 63 < t.size then (10,[]) else if toF l q = 0 then (if enS l = t then (0,l) else (13,[])) else (toF l q,[])):=by show _ = _;rw [HFr.out,hdp]
   clear hT hdp HP HFr;have z1 : ¬ (63 : Int) < x.size:=by omega
   have HE1 : Hid (frR t q = if toF l q = 0 then (if enS l = t then (0,l) else (13,[])) else (toF l q,[])):=by show _ = _;rw [HE0.out,if_neg (by omega)]
   have HTb:=hr (HTo.out w3 v l HS.out (by
    by_cases hl : l = []
    ·exact .inl hl
    ·exact .inr (own_some' HS.out hl)) (fun y hy=>⟨by have:=hrg y hy; omega,by have:=hrg y hy; omega⟩) (by omega))
   have HTs : Hid (toF l q = 0 -> toS l q = enS l):=fun h=>if_pos h
   clear HE0 HTo hrg hln;generalize toF l q = k at *;go_wp2_with fail;refine HTb.out.mono ?_;rintro e w4 ⟨rfl,hb⟩;replace HO:=hr (HO.out.step hb);replace HS:=hr (HS.out.step hb)
   clear hb HTb;by_cases hk : k = 0
   ·subst hk;rw [if_pos rfl] at HE1;have HT2:=hr (HTs.out rfl);rw [HT2.out];clear HTs;by_cases he : enS l = t
    ·have HE : Hid (frR t q = (0,l)):=by show _ = _; rw [HE1.out,if_pos he]
     have q1:=bya_eq he
     clear HE1;go_wp2_with fail;go_ret2;refine ⟨v,?_,?_,HO.out.1⟩
     ·rw [HE.out]; rfl
     ·rw [HE.out]; exact HS.out
    ·have HE : Hid (frR t q = (13,[])):=by show _ = _; rw [HE1.out,if_neg he]
     have q1:=bya_ne he
     clear HE1;go_wp2_with fail;go_ret2;refine ⟨.slice none 0 0,?_,?_,HO.out.1⟩
     ·rw [HE.out]; rfl
     ·rw [HE.out]; exact sl_nil _ _
   ·have q1 : (k != 0) = true:=by simpa using hk
    have HE : Hid (frR t q = (k,[])):=by show _ = _; rw [HE1.out,if_neg hk]
    clear HE1 hk;go_wp2_with fail;go_ret2;refine ⟨.slice none 0 0,?_,?_,HO.out.1⟩
    ·rw [HE.out]; rfl
    ·rw [HE.out]; exact sl_nil _ _
 ·have hc' : cdS x = false:=by simpa using hc
  have HE : Hid (frR t q = (12,[])):=by show _ = _;unfold frR deP;rw [hcl,hc',if_neg (by decide)]
  rw [hc'] at HC;clear hc hcl hsz hc' HL;go_enter Tryz.func28,Tryz.ntmps28
  go_wp2_with fail;refine HC.out.mono ?_;rintro e w1 ⟨rfl,hb⟩;replace HO:=hr (HO.out.step hb);clear hb HC;go_wp2_with fail;go_ret2;refine ⟨.slice none 0 0,?_,?_,HO.out.1⟩
  ·rw [HE.out]; rfl
  ·rw [HE.out]; exact sl_nil _ _
end La
end Go.Proofs.YtkhipgcgcbhjoaaGreat
namespace Go.Proofs.YtkhipgcgcbhjoaaGreat
namespace La
open Go.RowKit Od Pr Nf
theorem ints16_any (v : Value) (zs : List Int) (w : World) (h : Sl .i32 w v zs) (hn : zs.length <= 1000000) (hz : ∀ z ∈ zs,-2147483648 <= z ∧ z <= 2147483647) :
 Calls Tryz.prog 19 #[v] w fun e w'=>∃ v',e = .returned v' ∧ Sn .i64 w' v' zs ∧ Below w.heap.size w w':=by
 obtain ⟨ao,cap,rfl,h⟩:=h
 have HS:=hr h
 have HZ:=hr hz
 clear h hz;have HO : Hid ((w.alloc (.cells #[] 3)).ownsRow w.heap.size 3 1 (.slice (some ⟨w.heap.size,0,none⟩) 0 0) 0 []):=World.ownsRow_made w #[] 0 (Nat.le_refl _) (by unfold maxLen; omega) rfl
 have hok:=hr ((Ok.start w).alloc (o:=.cells #[] 3))
 go_enter Tryz.func19,Tryz.ntmps19
 go_wp2_with fail;go_loopg [3,5,9] zs.length (fun g vo _ vi wr=>∃ k : Nat,vi = .int .i64 k ∧ k <= zs.length ∧ g = zs.length - k ∧ Hid (wr.ownsRow w.heap.size 3 1 vo k (ivs .i64 (zs.take k)) ∧ Ok w.heap.size w wr ∧ isSome vo))
 case atStart=>exact ⟨0,rfl,Nat.zero_le _,rfl,HO.out,hok.out,trivial⟩
 case round =>
  obtain ⟨k,rfl,hk,hg,H⟩:=hrel
  have HG:=hr hg
  clear hg HO hok;by_cases hlt : k < zs.length
  ·obtain ⟨b,off,rfl,hb,hc⟩:=HS.out.at_ k hlt
   have hc':=(H.out.2.1.1.cell (p:=⟨b,off + k,none⟩) hb).trans hc
   have hzk:=HZ.out zs[k] (List.getElem_mem hlt)
   have HT : Hid (ivs .i64 (zs.take (k + 1)) = ivs .i64 (zs.take k) ++ [.int .i64 zs[k]]):=by show _ = _; rw [List.take_succ_eq_append_getElem hlt,ivs_snoc]
   clear hc;generalize zs[k] = z at *;have hwz : IntKind.i64.wrap z = z:=by rw [IntKind.wrap_i64]; omega
   go_wp2_with (at_builtin; refine app_i64 rfl (.tmp 13) (.tmp 16) rfl wr w.heap.size k _ _ z rfl wr.heap.size rfl rfl H.out.1 (by omega) H.out.2.1.2 (fun v' w' h1 h2=>?_))
   have H2 : Hid (w'.ownsRow w.heap.size 3 1 v' (k + 1) (ivs .i64 (zs.take (k + 1))) ∧ Ok w.heap.size w w' ∧ isSome v'):=by refine ⟨by rw [HT.out]; exact h1,ok_below h2 H.out.2.1,own_some h1 (Nat.succ_pos k)⟩
   clear h1 h2;go_roundg (zs.length - (k + 1))
   case measure=>rw [HG.out]; omega
   case rel=>exact ⟨k + 1,by go_num,by omega,rfl,H2.out⟩
  ·have e : k = zs.length:=by omega
   subst e;go_wp2_with fail;go_ret;refine ⟨_,rfl,(own_sl (B:=w.heap.size) (e:=3) ?_).sn H.out.2.2,H.out.2.1.1⟩
   have:=H.out.1
   rwa [List.take_length] at this
theorem checker_any (w : World) : Calls Tryz.prog 12 #[] w fun e w'=>∃ c b f j g p d u s,e = .returned (.pointer (some ⟨c,0,none⟩)) ∧ Ck w' c b f j g p d u s ∧ Below w.heap.size w w':=by
 have HO:=hr (Ok.start w);go_enter Tryz.func12,Tryz.ntmps12
 go_wp2_with fail;refine (newbook_any _).mono ?_;rintro e w1 ⟨b,rfl,hb,hB⟩;have HB:=hr hB
 replace HO:=hr (HO.out.step hb);clear hb hB;go_wp2_with fail;refine (Pr.new_any _).mono ?_;rintro e w2 ⟨p,d,u,s,rfl,hP,hb⟩;have HP:=hr hP
 replace HB:=hr (HB.out.step hb);replace HO:=hr (HO.out.step hb);clear hb hP;go_wp2_with fail;refine (lnew_any HB.out HP.out).mono ?_;rintro e w3 ⟨c,f,j,g,rfl,hC,hb⟩
 have HC:=hr hC
 replace HO:=hr (HO.out.step hb);clear hb hC;go_wp2_with fail;go_ret;exact ⟨c,b,f,j,g,p,d,u,s,rfl,HC.out,HO.out.1⟩
theorem sn_some {k : IntKind} {w : World} {v : Value} {X : List Int} (h : Sn k w v X) : X = [] ∨ isSome v:=by
 obtain ⟨ad,cap,rfl,_⟩:=h
 exact .inr trivial
theorem aw_f : toF [252] false = 0:=by kernel_rfl
theorem aw_e : enS [252] = ⟨#[120,110,45,45,116,100,97]⟩:=by kernel_rfl
theorem aw_s : toS [252] false = ⟨#[120,110,45,45,116,100,97]⟩:=by unfold toS; rw [aw_f,if_pos rfl,aw_e]
theorem aw_l : Oc.lowS ⟨#[88,78,45,45,84,68,65]⟩ = ⟨#[120,110,45,45,116,100,97]⟩:=by kernel_rfl
theorem aw_x : Oc.lowS ⟨#[120,110,45,45,116,100,97]⟩ = ⟨#[120,110,45,45,116,100,97]⟩:=by kernel_rfl
theorem aw_t : frR (Oc.lowS (toS [252] false)) false = (0,[252]):=from_to aw_f (.inl (show (1 : Nat) <= 40 by omega))
theorem aw_r : frR (Oc.lowS ⟨#[88,78,45,45,84,68,65]⟩) false = (0,[252]):=by
 have h:=aw_t
 rw [aw_s,aw_x] at h;rw [aw_l];exact h
theorem aw_o1 : oldP (Pu.bsI ⟨#[97,45,45,98]⟩) = 0:=by kernel_rfl
theorem aw_o2 : oldP (Pu.bsI ⟨#[97,98,45,45,99]⟩) = 3:=by kernel_rfl
theorem awake16_any {w : World} {c b f j g p d u s : Nat} (hC : Ck w c b f j g p d u s) : Calls Tryz.prog 13 #[.pointer (some ⟨c,0,none⟩)] w fun e w'=>e = .returned (.bool true) ∧ Below w.heap.size w w':=by
 have HC:=hr hC
 have HO:=hr (Ok.start w);have HO1:=hr (fun W=>old_any ⟨#[97,45,45,98]⟩ (by decide) W)
 have HO2:=hr (fun W=>old_any ⟨#[97,98,45,45,99]⟩ (by decide) W)
 rw [aw_o1] at HO1;rw [aw_o2] at HO2;have HFr:=hr (fun (W : World) (h : Below w.heap.size w W)=>from_any (hC.step h) ⟨#[88,78,45,45,84,68,65]⟩ (by decide) false)
 rw [aw_r] at HFr;have HTo:=hr (fun (W : World) (v : Value) (h : Below w.heap.size w W) (hS : Sl .i32 W v [252])=>toold_any (hC.step h) hS (fun x hx=>by simp at hx; subst hx; exact ⟨by omega,by omega⟩) (by decide) false)
 rw [aw_f,aw_s] at HTo;clear hC;go_enter Tryz.func13,Tryz.ntmps13
 go_wp2_with fail;refine (HTo.out _ _ HO.out.alloc.1 (De.one_sl .i32 w 21 252 w.heap.size rfl).sl).mono ?_;rintro e w1 ⟨rfl,hb⟩;replace HO:=hr (HO.out.alloc.step hb)
 clear hb HTo;go_wp2_with fail;refine (HFr.out _ HO.out.1).mono ?_;rintro e w2 ⟨v,rfl,hS,hb⟩;replace HO:=hr (HO.out.step hb);have HS:=hr hS
 clear hb hS HFr;obtain ⟨ao,cap,rfl,hP⟩:=HS.out
 obtain ⟨gb,off,rfl,hgb,c0⟩:=hP.at_ 0 (by decide)
 rw [Nat.add_zero] at c0;have c0' : w2.cell? ⟨gb,off,none⟩ = some (.int .i32 252):=c0
 clear hP c0 HS;go_wp2_with fail;refine (HO1.out _).mono ?_;rintro e w3 ⟨rfl,hb⟩;replace HO:=hr (HO.out.step hb);clear hb HO1;go_wp2_with fail;refine (HO2.out _).mono ?_
 rintro e w4 ⟨rfl,hb⟩;replace HO:=hr (HO.out.step hb);clear hb HO2;go_wp2_with fail;go_ret;exact ⟨rfl,HO.out.1⟩
theorem fr_small {t : ByteArray} {q : Bool} {k : Int} {l : List Int} (h : frR t q = (k,l)) (ht : t.size <= 120) : l.length <= 120 ∧ ∀ z ∈ l,0 <= z ∧ z <= 1114111:=by
 have hn : ((∀ z ∈ ([] : List Int),0 <= z ∧ z <= 1114111)):=fun z hz=>by cases hz
 unfold frR at h;cases hd : deP t with
 | none =>
  rw [hd] at h;injection h with _ h;subst h;exact ⟨by simp,hn⟩
 | some x =>
  obtain ⟨h1,h2,_⟩:=deP_range hd
  rw [hd] at h;simp only at h
  split at h
  ·injection h with _ h;subst h;exact ⟨by simp,hn⟩
  ·split at h
   ·split at h
    ·injection h with _ h;subst h;exact ⟨by omega,h1⟩
    ·injection h with _ h;subst h;exact ⟨by simp,hn⟩
   ·injection h with _ h;subst h;exact ⟨by simp,hn⟩
end La
end Go.Proofs.YtkhipgcgcbhjoaaGreat
