import Derived.Test.YtkhipgcgcbhjoaaGreatDn50
import Derived.Deep.QuietTactic
import Derived.BigQuiet
import Derived.Deep.RegionHeld3
set_option maxRecDepth 100000
set_option maxHeartbeats 8000000
namespace Go.Proofs.YtkhipgcgcbhjoaaGreat
namespace Do
open Go.RowKit Od Pr Nf Ma La
def PartV (W : World) (A : List Int) (pv : Value) : Prop:=(∃ v,Sl .i32 W v A ∧ plB A = false ∧ pv = .iface 251 v) ∨ (plB A = true ∧ cdS (txS A) = false ∧ pv = .iface 254 (.string (txS A))) ∨ ∃ v,Sl .i32 W v (ptP A) ∧ plB A = true ∧ cdS (txS A) = true ∧ pv = .iface 253 (.agg #[.string (txS A),v])
theorem PartV.native {W : World} {A : List Int} (v : Value) (h : Sl .i32 W v A) (hp : plB A = false) : PartV W A (.iface 251 v):=.inl ⟨v,h,hp,rfl⟩
theorem PartV.plain {W : World} {A : List Int} (hp : plB A = true) (hc : cdS (txS A) = false) : PartV W A (.iface 254 (.string (txS A))):=.inr (.inl ⟨hp,hc,rfl⟩)
theorem PartV.coded {W : World} {A : List Int} (v : Value) (h : Sl .i32 W v (ptP A)) (hp : plB A = true) (hc : cdS (txS A) = true) : PartV W A (.iface 253 (.agg #[.string (txS A),v])):=.inr (.inr ⟨v,h,hp,hc,rfl⟩)
theorem PartV.step {W W' : World} {A : List Int} {v : Value} (h : PartV W A v) (hb : Below W.heap.size W W') : PartV W' A v:=by
 rcases h with ⟨v,h,hp,rfl⟩ | ⟨hp,hc,rfl⟩ | ⟨v,h,hp,hc,rfl⟩
 ·exact .native v (h.step hb) hp
 ·exact .plain hp hc
 ·exact .coded v (h.step hb) hp hc
def PartX (A : List Int) (x pv : Value) : Prop:=(plB A = false ∧ pv = .iface 251 x) ∨ (plB A = true ∧ cdS (txS A) = false ∧ pv = .iface 254 (.string (txS A))) ∨ (plB A = true ∧ cdS (txS A) = true ∧ pv = .iface 253 (.agg #[.string (txS A),x]))
theorem PartX.native {A : List Int} {x : Value} (hp : plB A = false) : PartX A x (.iface 251 x):=.inl ⟨hp,rfl⟩
theorem PartX.plain {A : List Int} {x : Value} (hp : plB A = true) (hc : cdS (txS A) = false) : PartX A x (.iface 254 (.string (txS A))):=.inr (.inl ⟨hp,hc,rfl⟩)
theorem PartX.coded {A : List Int} {x : Value} (hp : plB A = true) (hc : cdS (txS A) = true) : PartX A x (.iface 253 (.agg #[.string (txS A),x])):=.inr (.inr ⟨hp,hc,rfl⟩)
theorem pt_native {A : List Int} (h : plB A = false) : ptP A = A:=by unfold ptP;rw [if_neg (by simp [h])]
theorem pt_plain {A : List Int} (h : plB A = true) (hc : cdS (txS A) = false) : ptP A = A:=by unfold ptP;rw [if_pos h,if_neg (by simp [hc])]
theorem PartX.part {W : World} {A : List Int} {x v : Value} (h : PartX A x v) (hS : Sl .i32 W x (ptP A)) : PartV W A v:=by
 rcases h with ⟨hp,rfl⟩ | ⟨hp,hc,rfl⟩ | ⟨hp,hc,rfl⟩
 ·exact .native x (by rw [<- pt_native hp]; exact hS) hp
 ·exact .plain hp hc
 ·exact .coded x hS hp hc
def PartN (B : Nat) (W : World) (A : List Int) (l pv : Value) : Prop:=(plB A = false ∧ pv = .iface 251 l) ∨ (plB A = true ∧ cdS (txS A) = false ∧ pv = .iface 254 (.string (txS A))) ∨ ∃ x,plB A = true ∧ cdS (txS A) = true ∧ Sl .i32 W x (ptP A) ∧ (∀ b,x.ownBlock = some b -> B <= b) ∧ pv = .iface 253 (.agg #[.string (txS A),x])
theorem PartN.native {B : Nat} {W : World} {A : List Int} {l : Value} (hp : plB A = false) : PartN B W A l (.iface 251 l):=.inl ⟨hp,rfl⟩
theorem PartN.plain {B : Nat} {W : World} {A : List Int} {l : Value} (hp : plB A = true) (hc : cdS (txS A) = false) : PartN B W A l (.iface 254 (.string (txS A))):=.inr (.inl ⟨hp,hc,rfl⟩)
theorem PartN.coded {B : Nat} {W : World} {A : List Int} {l : Value} (x : Value) (hp : plB A = true) (hc : cdS (txS A) = true) (h : Sl .i32 W x (ptP A)) (hf : ∀ b,x.ownBlock = some b -> B <= b) : PartN B W A l (.iface 253 (.agg #[.string (txS A),x])):=.inr (.inr ⟨x,hp,hc,h,hf,rfl⟩)
structure Nm (w : World) (n b m f c g j k p d u s : Nat) : Prop where
 blk : w.heap[n]? = some (.cells #[.pointer (some ⟨b,0,none⟩),.pointer (some ⟨m,0,none⟩),.pointer (some ⟨c,0,none⟩)] 117)
 mp : Mp w m f b p d u s
 ck : Ck w c b g j k p d u s
theorem Nm.step {w w' : World} {n b m f c g j k p d u s : Nat} (h : Nm w n b m f c g j k p d u s) (hb : Below w.heap.size w w') : Nm w' n b m f c g j k p d u s :=
 ⟨(hb.block n (Array.getElem?_eq_some_iff.1 h.blk).1).trans h.blk,h.mp.step hb,h.ck.step hb⟩
theorem Nm.cells {w : World} {n b m f c g j k p d u s : Nat} (h : Nm w n b m f c g j k p d u s) : w.cell? ⟨n,0,none⟩ = some (.pointer (some ⟨b,0,none⟩)) ∧ w.cell? ⟨n,1,none⟩ = some (.pointer (some ⟨m,0,none⟩)) ∧ w.cell? ⟨n,2,none⟩ = some (.pointer (some ⟨c,0,none⟩)):=by
 unfold World.cell?
 rw [h.blk];exact ⟨rfl,rfl,rfl⟩
theorem dnew_any {w : World} {b p d u s : Nat} (hb : Bk w b) (hp : PW w p d u s allP 395) :
 Calls Tryz.prog 32 #[.pointer (some ⟨b,0,none⟩),.pointer (some ⟨p,0,none⟩)] w fun e w'=>∃ n m f c g j k,e = .returned (.pointer (some ⟨n,0,none⟩)) ∧ Nm w' n b m f c g j k p d u s ∧ Below w.heap.size w w':=by
 have HN:=La.hr (mnew_any hb hp);have HJ:=La.hr (fun (W : World) (h : Below w.heap.size w W)=>lnew_any (hb.step h) (hp.step h))
 clear hb hp;have HO:=La.hr (Ok.start w);go_enter Tryz.func32,Tryz.ntmps32
 go_wp2_with fail;refine HN.out.mono ?_;rintro e w1 ⟨m,f,rfl,hF,hb⟩;have HF:=La.hr hF
 replace HO:=La.hr (HO.out.step hb);clear hF hb HN;go_wp2_with fail;refine (HJ.out _ HO.out.1).mono ?_;rintro e w2 ⟨c,g,j,k,rfl,hJ,hb⟩;have HJd:=La.hr hJ
 replace HF:=La.hr (HF.out.step hb);replace HO:=La.hr (HO.out.step hb);clear hJ hb HJ;go_wp2_with fail;go_ret;exact ⟨_,m,f,c,g,j,k,rfl,⟨heap_alloc_new w2 _,HF.out.step (Ok.start w2).alloc.1,HJd.out.step (Ok.start w2).alloc.1⟩,HO.out.alloc.1⟩
theorem pts_native (v : Value) (w : World) : Calls Tryz.prog 322 #[v] w fun e w'=>e = .returned v ∧ w' = w:=by
 go_enter Tryz.func322,Tryz.ntmps322
 go_wp2_with fail;go_ret;exact ⟨rfl,rfl⟩
theorem pts_coded (t v : Value) (w : World) : Calls Tryz.prog 323 #[.agg #[t,v]] w fun e w'=>e = .returned v ∧ Below w.heap.size w w':=by
 go_enter Tryz.func323,Tryz.ntmps323
 go_wp2_with fail;go_ret;exact ⟨rfl,(Ok.start w).alloc.1⟩
theorem part_new {w : World} {n b m f c g j k p d u s : Nat} (hN : Nm w n b m f c g j k p d u s) {v : Value} {A : List Int} (hS : Sl .i32 w v A) (hA : ∀ x ∈ A,Ut.scB x = true) (hn : A.length <= 120) :
 Calls Tryz.prog 135 #[.pointer (some ⟨n,0,none⟩),v] w fun e w'=>∃ pv,e = .returned pv ∧ PartN w.heap.size w' A v pv ∧ Below w.heap.size w w':=by
 have hall : A.all Ut.scB = true:=List.all_eq_true.2 hA
 have HT:=La.hr (Ut.text_any v A w (Nf.od_ut hS) (by omega));have HTv : Hid (Ut.textV A = .string (txS A)):=by show _ = _;unfold Ut.textV;rw [if_pos hall]; rfl
 rw [HTv.out] at HT;have hsz : (txS A).size = (Ut.textL A).length:=by unfold txS; simp [ByteArray.size]
 obtain ⟨hl1,hl2⟩:=text_long A hA
 have hl4:=Ut.textL_len A
 have HO:=La.hr (Ok.start w);have HNm:=La.hr hN
 have HSl:=La.hr hS
 have HPt : Hid (plB A = true -> cdS (txS A) = true -> ptP A = (frR (Oc.lowS (txS A)) false).2):=fun h1 h2=>by unfold ptP; rw [if_pos h1,if_pos h2]
 have HFr:=La.hr (fun (W : World) (h : Below w.heap.size w W) (hx : (txS A).size <= 120)=>from_new (hN.step h).ck (txS A) hx false)
 have HCd:=La.hr (fun (W : World)=>coded_any (txS A) (by omega) W)
 obtain ⟨ao,cap,rfl,_⟩:=hS
 clear hN hall HTv;generalize hlen : A.length = len at *;by_cases hp : plB A = true
 ·have hle : (txS A).size <= len:=by
   have : ¬ len < (Ut.textL A).length:=fun h=>by rw [hl2.1 h] at hp; cases hp
   omega
  have HFr2:=La.hr (fun (W : World) (h : Below w.heap.size w W)=>HFr.out W h (by omega))
  have z1 : ¬ (len : Int) < ((txS A).size : Int):=by omega
  have HP:=La.hr hp
  clear hl1 hl2 hl4 hsz hp HFr;by_cases hc : cdS (txS A) = true
  ·have HC:=La.hr hc
   have HPt2:=La.hr (HPt.out HP.out hc);rw [hc] at HCd;rw [<- HPt2.out] at HFr2;clear hc HPt;generalize htx : txS A = t at *;have HTx:=La.hr htx
   clear htx;go_enter Tryz.func135,Tryz.ntmps135
   go_wp2_with fail;refine HT.out.mono ?_;rintro e w1 ⟨rfl,hb⟩;replace HO:=La.hr (HO.out.step hb);clear hb HT;go_wp2_with fail;refine (HCd.out _).mono ?_;rintro e w2 ⟨rfl,hb⟩
   replace HO:=La.hr (HO.out.step hb);clear hb HCd;obtain ⟨c0,c1,c2⟩:=(HNm.out.step HO.out.1).cells
   go_wp2_with fail;have hs1:=HO.out.1.size
   refine (HFr2.out _ HO.out.1).mono ?_;rintro e w3 ⟨v3,rfl,⟨h3,hf3⟩,hb⟩;replace HO:=La.hr (HO.out.step hb);have H3:=La.hr h3
   have HF3 : Hid (∀ b,v3.ownBlock = some b -> w.heap.size <= b):=fun b h=>Nat.le_trans hs1 (hf3 b h)
   clear hf3 hs1;obtain ⟨ao3,cap3,rfl,_⟩:=h3
   generalize hl3 : (ptP A).length = len3 at *;clear hb HFr2 c0 c1 c2;go_wp2_with fail;go_ret;refine ⟨_,rfl,?_,HO.out.1⟩
   rw [<- HTx.out];exact .coded _ HP.out (by rw [HTx.out]; exact HC.out) H3.out HF3.out
  ·have hc' : cdS (txS A) = false:=by simpa using hc
   have HC:=La.hr hc'
   rw [hc'] at HCd;clear hc hc' HPt HFr2;generalize htx : txS A = t at *;have HTx:=La.hr htx
   clear htx;go_enter Tryz.func135,Tryz.ntmps135
   go_wp2_with fail;refine HT.out.mono ?_;rintro e w1 ⟨rfl,hb⟩;replace HO:=La.hr (HO.out.step hb);clear hb HT;go_wp2_with fail;refine (HCd.out _).mono ?_;rintro e w2 ⟨rfl,hb⟩
   replace HO:=La.hr (HO.out.step hb);clear hb HCd;go_wp2_with fail;go_ret;refine ⟨_,rfl,?_,HO.out.1⟩
   rw [<- HTx.out];exact .plain HP.out (by rw [HTx.out]; exact HC.out)
 ·have hp' : plB A = false:=by simpa using hp
  have HP:=La.hr hp'
  have z1 : (len : Int) < ((txS A).size : Int):=by have:=hl2.2 hp'; omega
  clear hl1 hl2 hl4 hsz hp hp' HFr HCd HPt;generalize txS A = t at *;go_enter Tryz.func135,Tryz.ntmps135
  go_wp2_with fail;refine HT.out.mono ?_;rintro e w1 ⟨rfl,hb⟩;replace HO:=La.hr (HO.out.step hb);replace HSl:=La.hr (HSl.out.step hb);clear hb HT;go_wp2_with fail
  go_ret;exact ⟨_,rfl,.native HP.out,HO.out.1⟩
theorem pl_lt {A : List Int} (h : plB A = true) : ∀ x ∈ A,x < 128:=fun x hx=>of_decide_eq_true (List.all_eq_true.1 h x hx)
theorem pts_new {A : List Int} (hA : ∀ x ∈ A,Ut.scB x = true) (hp : plB A = true) (hn : A.length <= 120) (w : World) :
 Calls Tryz.prog 221 #[.string (txS A)] w fun e w'=>∃ v,e = .returned v ∧ (Sl .i32 w' v A ∧ ∀ b,v.ownBlock = some b -> w.heap.size <= b) ∧ Below w.heap.size w w':=by
 have h0 : ∀ x ∈ A,0 <= x:=fun x hx=>by have:=(sc_iff x).1 (hA x hx); omega
 have hb:=bs_text h0 hp
 have hz : (txS A).size = A.length:=by rw [<- Pu.bsI_len,hb]
 have hr0 : rnI (txS A) (txS A).size 0 = A:=by rw [rn_ascii _ (by rw [hb]; exact pl_lt hp) _ 0 (by omega),List.drop_zero,hb]
 generalize txS A = s at *;have hz0 : (Conv.runesFrom s s.size 0 #[]).size = A.length:=by rw [rn_eq,hr0]; simp [ivs]
 have hcv:=run_runes_of_string (P:=Tryz.prog) w 9 22 21 s Tryz.underlying9 Tryz.underlying22 Tryz.underlying21 (by rw [hz0]; omega)
 rw [hz0] at hcv;have hge:=grownCap_ge w A.length 0 21
 have hrn : Conv.runesFrom s s.size 0 #[] = (ivs .i32 A).toArray:=by rw [rn_eq,hr0]; simp
 rw [hrn] at hcv;generalize grownCap w A.length 0 21 = cp at *;have hS:=i32_sl w.drew A cp (Array.replicate (cp - A.length) (.int .i32 0)) 21 (by omega)
 have hB : Below w.heap.size w (w.drew.alloc (.cells ((ivs .i32 A).toArray ++ Array.replicate (cp - A.length) (.int .i32 0)) 21)):=((Below.refl _ _).drew).alloc (Nat.le_refl _) _
 have hg : (w.drew).heap.size = w.heap.size:=rfl
 rw [hg] at hS;generalize w.drew.alloc (.cells ((ivs .i32 A).toArray ++ Array.replicate (cp - A.length) (.int .i32 0)) 21) = W1 at *;have HS:=La.hr hS
 have HB:=La.hr hB
 clear hS hB hrn hz0 hg hb hr0 hA hp h0 hge;go_enter Tryz.func221,Tryz.ntmps221
 go_wp2_with fail;go_ret;exact ⟨_,rfl,⟨⟨_,_,rfl,HS.out⟩,fun b h=>(by simp [Value.ownBlock] at h; omega)⟩,HB.out⟩
theorem pts_plain {A : List Int} (hA : ∀ x ∈ A,Ut.scB x = true) (hp : plB A = true) (hn : A.length <= 120) (w : World) :
 Calls Tryz.prog 221 #[.string (txS A)] w fun e w'=>∃ v,e = .returned v ∧ Sl .i32 w' v A ∧ Below w.heap.size w w' :=
 (pts_new hA hp hn w).mono fun _ _ ⟨v,h1,h2,h3⟩=>⟨v,h1,h2.1,h3⟩
theorem ta_pp (v : Value) (w : World) : (Instr.typeAssert (.iface 254 v) 126 254 true).run Tryz.prog w = .ok (.tuple #[v,.bool true]) w:=by kernel_rfl
theorem ta_cp (v : Value) (w : World) : (Instr.typeAssert (.iface 253 v) 126 254 true).run Tryz.prog w = .ok (.tuple #[.string ⟨#[]⟩,.bool false]) w:=by kernel_rfl
theorem ta_cc (v : Value) (w : World) : (Instr.typeAssert (.iface 253 v) 126 253 true).run Tryz.prog w = .ok (.tuple #[v,.bool true]) w:=by kernel_rfl
theorem ta_np (v : Value) (w : World) : (Instr.typeAssert (.iface 251 v) 126 254 true).run Tryz.prog w = .ok (.tuple #[.string ⟨#[]⟩,.bool false]) w:=by kernel_rfl
theorem ta_nc (v : Value) (w : World) : (Instr.typeAssert (.iface 251 v) 126 253 true).run Tryz.prog w = .ok (.tuple #[.agg #[.string ⟨#[]⟩,.slice none 0 0],.bool false]) w:=by kernel_rfl
theorem one_coded {w : World} {n b m f c g j k p d u s : Nat} (hN : Nm w n b m f c g j k p d u s) (t : ByteArray) (ao : Option Addr) (ln cap : Nat) (ht : t.size <= 120) (q : Bool) :
 Calls Tryz.prog 149 #[.pointer (some ⟨n,0,none⟩),.iface 253 (.agg #[.string t,.slice ao ln cap]),.bool q] w fun e w'=>e = .returned (.tuple #[.string t,.int .i64 (frR (Oc.lowS t) q).1]) ∧ Below w.heap.size w w':=by
 have HO:=La.hr (Ok.start w);have HNm:=La.hr (fun (W : World) (h : Below w.heap.size w W)=>(hN.step h).cells)
 have HFr:=La.hr (fun (W : World) (h : Below w.heap.size w W)=>from_any (hN.step h).ck t ht q)
 clear hN;have h1:=ta_cp (.agg #[.string t,.slice ao ln cap]) w
 have h2:=ta_cc (.agg #[.string t,.slice ao ln cap]) w
 have HA:=La.hr ((HO.out.alloc (o:=.cells #[.string t,.slice ao ln cap] 253)).step ((Below.refl _ _).drew))
 have Ca : Hid ((w.alloc (.cells #[.string t,.slice ao ln cap] 253)).drew.cell? ⟨w.heap.size,0,none⟩ = some (.string t)):=by
  have e : (w.alloc (.cells #[.string t,.slice ao ln cap] 253)).drew.heap[w.heap.size]? = some (.cells #[.string t,.slice ao ln cap] 253):=heap_alloc_new w _
  show _ = _;unfold World.cell?
  rw [e]; rfl
 have c0:=(HNm.out _ HA.out.1).2.2
 go_enter Tryz.func149,Tryz.ntmps149
 go_wp2_with fail;go_region_with (go_at_call 26; refine (HFr.out _ HA.out.1).mono ?_; rintro e w3 ⟨v3,rfl,h3,hb3⟩; have HB3:=La.hr (HA.out.step hb3); have c1 : w3.cell? ⟨w.heap.size,0,none⟩ = some (.string t):=(hb3.cell (p:=⟨w.heap.size,0,none⟩) (by simp)).trans Ca.out)
 all_goals go_wp2_with fail
 all_goals go_ret2
 all_goals exact ⟨rfl,HB3.out.1⟩
theorem md_n (v : Value) (w : World) : (method 433 251 v "moniker/domain.points").run Tryz.prog w = .ok (322, v) w := by kernel_rfl
theorem md_p (v : Value) (w : World) : (method 433 254 v "moniker/domain.points").run Tryz.prog w = .ok (221, v) w := by kernel_rfl
theorem md_c (v : Value) (w : World) : (method 433 253 v "moniker/domain.points").run Tryz.prog w = .ok (323, v) w := by kernel_rfl
theorem one_native {w : World} {n b m f c g j k p d u s : Nat} (hN : Nm w n b m f c g j k p d u s) {v : Value} {A : List Int} (hS : Sl .i32 w v A) (hI : ∀ x ∈ A,Pr.I32 x) (hn : A.length <= 120) (q : Bool) :
 Calls Tryz.prog 149 #[.pointer (some ⟨n,0,none⟩),.iface 251 v,.bool q] w fun e w'=>e = .returned (.tuple #[.string (toS A q),.int .i64 (toF A q)]) ∧ Below w.heap.size w w':=by
 have HO:=La.hr (Ok.start w);have HNm:=La.hr (fun (W : World) (h : Below w.heap.size w W)=>(hN.step h).cells)
 have HTo:=La.hr (fun (W : World) (h : Below w.heap.size w W)=>toold_any (hN.step h).ck (hS.step h) hI hn q)
 have HPt:=La.hr (fun (W : World)=>pts_native v W)
 obtain ⟨ao,cap,rfl,_⟩:=hS
 clear hN;have h1:=ta_np (.slice ao A.length cap) w
 have h2:=ta_nc (.slice ao A.length cap) w
 have h3:=md_n (.slice ao A.length cap) w.drew
 have HA:=La.hr (HO.out.step ((Below.refl _ _).drew));have c0:=(HNm.out _ HA.out.1).2.2
 go_enter Tryz.func149,Tryz.ntmps149
 go_wp2_with fail;go_region_with (first | (go_at_call 322; refine (HPt.out _).mono ?_; rintro e w2 ⟨rfl,rfl⟩) | (go_at_call 24; refine (HTo.out _ HA.out.1).mono ?_; rintro e w3 ⟨rfl,hb3⟩; have HB3:=La.hr (HA.out.step hb3)))
 all_goals go_wp2_with fail
 all_goals go_ret2
 all_goals exact ⟨rfl,HB3.out.1⟩
theorem one_old {w : World} {n : Nat} {t : ByteArray} {o : Int} (ho : o ≠ 0) (q : Bool) (hold : Calls Tryz.prog 20 #[.string t] w fun e w'=>e = .returned (.int .i64 o) ∧ Below w.heap.size w w') :
 Calls Tryz.prog 149 #[.pointer (some ⟨n,0,none⟩),.iface 254 (.string t),.bool q] w fun e w'=>e = .returned (.tuple #[.string t,.int .i64 o]) ∧ Below w.heap.size w w':=by
 have HOld:=La.hr hold
 have HO:=La.hr (Ok.start w);have h1:=ta_pp (.string t) w
 have z0 : (o == 0) = false:=beq_eq_false_iff_ne.2 ho
 clear hold ho;go_enter Tryz.func149,Tryz.ntmps149
 go_wp2_with fail;refine HOld.out.mono ?_;rintro e w1 ⟨rfl,hb1⟩;have HA:=La.hr (HO.out.step hb1);clear hb1;go_wp2_with fail;go_quiet (fail)
 go_wp2_with fail;go_ret2;exact ⟨rfl,⟨HA.out.1.os,HA.out.1.tape,HA.out.1.output,HA.out.1.size,HA.out.1.block⟩⟩
theorem one_fine {w : World} {n : Nat} {t : ByteArray} (hold : Calls Tryz.prog 20 #[.string t] w fun e w'=>e = .returned (.int .i64 0) ∧ Below w.heap.size w w') :
 Calls Tryz.prog 149 #[.pointer (some ⟨n,0,none⟩),.iface 254 (.string t),.bool false] w fun e w'=>e = .returned (.tuple #[.string t,.int .i64 0]) ∧ Below w.heap.size w w':=by
 have HOld:=La.hr hold
 have HO:=La.hr (Ok.start w);have h1:=ta_pp (.string t) w
 clear hold;go_enter Tryz.func149,Tryz.ntmps149
 go_wp2_with fail;refine HOld.out.mono ?_;rintro e w1 ⟨rfl,hb1⟩;have HA:=La.hr (HO.out.step hb1);clear hb1;go_wp2_with fail;go_quiet (fail)
 go_wp2_with fail;go_ret2;exact ⟨rfl,⟨HA.out.1.os,HA.out.1.tape,HA.out.1.output,HA.out.1.size,HA.out.1.block⟩⟩
theorem one_bidi {w : World} {n b : Nat} {t : ByteArray} {A : List Int} {r : Int} (hold : Calls Tryz.prog 20 #[.string t] w fun e w'=>e = .returned (.int .i64 0) ∧ Below w.heap.size w w')
 (hc : ∀ W,Below w.heap.size w W -> W.cell? ⟨n,0,none⟩ = some (.pointer (some ⟨b,0,none⟩)))
 (hpt : ∀ W,Calls Tryz.prog 221 #[.string t] W fun e w'=>∃ v,e = .returned v ∧ Sl .i32 w' v A ∧ Below W.heap.size W w')
 (hbr : ∀ (W : World) (v : Value),Below w.heap.size w W -> Sl .i32 W v A -> Calls Tryz.prog 55 #[.pointer (some ⟨b,0,none⟩),v] W fun e w'=>e = .returned (.int .i64 r) ∧ Below W.heap.size W w') :
 Calls Tryz.prog 149 #[.pointer (some ⟨n,0,none⟩),.iface 254 (.string t),.bool true] w fun e w'=>e = .returned (.tuple #[.string t,.int .i64 (if r = 0 then 0 else 8)]) ∧ Below w.heap.size w w':=by
 have HOld:=La.hr hold
 have HO:=La.hr (Ok.start w);have h1:=ta_pp (.string t) w
 have HC:=La.hr hc
 have HPt:=La.hr hpt
 have HBr:=La.hr hbr
 clear hold hc hpt hbr;by_cases hr0 : r = 0
 ·subst hr0;go_enter Tryz.func149,Tryz.ntmps149
  go_wp2_with fail;refine HOld.out.mono ?_;rintro e w1 ⟨rfl,hb1⟩;have HA:=La.hr ((HO.out.step hb1).step ((Below.refl _ _).drew));clear hb1;have c0:=HC.out _ HA.out.1
  go_wp2_with fail;go_region_held3 (fun w'=>w'.cell? ⟨n,0,none⟩ = some (.pointer (some ⟨b,0,none⟩)))
   (exact HC.out _ HA.out.1)
   (first
    | (go_at_call 221; refine (HPt.out _).mono ?_; rintro e w2 ⟨v2,rfl,h2,hb2⟩; have H2:=La.hr h2; have HA2:=La.hr (HA.out.step hb2); clear HA; have HA:=HA2; clear HA2 h2 hb2)
    | (go_at_call 55; refine (HBr.out _ _ HA.out.1 H2.out).mono ?_; rintro e w3 ⟨rfl,hb3⟩; have HA2:=La.hr (HA.out.step hb3); clear HA; have HA:=HA2; clear HA2 hb3))
  all_goals go_wp2_with fail
  all_goals go_ret2
  all_goals exact ⟨rfl,HA.out.1⟩
 ·have z0 : (r == 0) = false:=beq_eq_false_iff_ne.2 hr0
  rw [if_neg hr0];clear hr0;go_enter Tryz.func149,Tryz.ntmps149
  go_wp2_with fail;refine HOld.out.mono ?_;rintro e w1 ⟨rfl,hb1⟩;have HA:=La.hr ((HO.out.step hb1).step ((Below.refl _ _).drew));clear hb1;have c0:=HC.out _ HA.out.1
  go_wp2_with fail;go_region_held3 (fun w'=>w'.cell? ⟨n,0,none⟩ = some (.pointer (some ⟨b,0,none⟩)))
   (exact HC.out _ HA.out.1)
   (first
    | (go_at_call 221; refine (HPt.out _).mono ?_; rintro e w2 ⟨v2,rfl,h2,hb2⟩; have H2:=La.hr h2; have HA2:=La.hr (HA.out.step hb2); clear HA; have HA:=HA2; clear HA2 h2 hb2)
    | (go_at_call 55; refine (HBr.out _ _ HA.out.1 H2.out).mono ?_; rintro e w3 ⟨rfl,hb3⟩; have HA2:=La.hr (HA.out.step hb3); clear HA; have HA:=HA2; clear HA2 hb3))
  all_goals go_wp2_with fail
  all_goals go_ret2
  all_goals exact ⟨rfl,HA.out.1⟩
theorem tx_size {A : List Int} (hA : ∀ x ∈ A,Ut.scB x = true) (hp : plB A = true) : (txS A).size = A.length:=by rw [<- Pu.bsI_len,bs_text (fun x hx=>by have:=(sc_iff x).1 (hA x hx); omega) hp]
theorem one_plain {w : World} {n b m f c g j k p d u s : Nat} (hN : Nm w n b m f c g j k p d u s) (hB : Bk w b) {A : List Int} (hA : ∀ x ∈ A,Ut.scB x = true) (hp : plB A = true) (hn : A.length <= 120) (q : Bool) :
 Calls Tryz.prog 149 #[.pointer (some ⟨n,0,none⟩),.iface 254 (.string (txS A)),.bool q] w fun e w'=>e = .returned (.tuple #[.string (txS A),.int .i64 (olF A q)]) ∧ Below w.heap.size w w':=by
 have hsz:=tx_size hA hp
 have hold:=old_any (txS A) (by omega) w
 unfold olF;by_cases ho : oldP (Pu.bsI (txS A)) = 0
 ·rw [if_pos ho];rw [ho] at hold;cases q with
  | false=>exact one_fine hold
  | true =>
   refine (one_bidi (A:=A) (r:=Bi.brP A) hold (fun W h=>(hN.step h).cells.1) (fun W=>pts_plain hA hp hn W) (fun W v hb hS=>?_)).mono ?_
   ·obtain ⟨ao,cap,rfl,h⟩:=hS
    exact Bi.broken_any (hB.step hb) rfl h (by omega)
   ·rintro e w' ⟨rfl,hb⟩;refine ⟨?_,hb⟩
    by_cases h0 : Bi.brP A = 0 <;> simp [h0]
 ·rw [if_neg ho];exact one_old ho q hold
theorem one_any {w : World} {n b m f c g j k p d u s : Nat} (hN : Nm w n b m f c g j k p d u s) (hB : Bk w b) {A : List Int} (hA : ∀ x ∈ A,Ut.scB x = true) (hn : A.length <= 120) {pv : Value} (hp : PartV w A pv) (q : Bool) :
 Calls Tryz.prog 149 #[.pointer (some ⟨n,0,none⟩),pv,.bool q] w fun e w'=>e = .returned (.tuple #[.string (snS A q),.int .i64 (snF A q)]) ∧ Below w.heap.size w w':=by
 unfold snS snF;rcases hp with ⟨v,h,hp,rfl⟩ | ⟨hp,hc,rfl⟩ | ⟨v,h,hp,hc,rfl⟩
 ·rw [if_neg (by simp [hp]),if_neg (by simp [hp])]
  exact one_native hN h (fun x hx=>by have:=(sc_iff x).1 (hA x hx); unfold Pr.I32; omega) hn q
 ·rw [if_pos hp,if_pos hp,if_neg (by simp [hc])]
  exact one_plain hN hB hA hp hn q
 ·rw [if_pos hp,if_pos hp,if_pos hc];obtain ⟨ao,cap,rfl,_⟩:=h
  exact one_coded hN (txS A) ao _ cap (by have:=tx_size hA hp; omega) q
end Do
end Go.Proofs.YtkhipgcgcbhjoaaGreat
