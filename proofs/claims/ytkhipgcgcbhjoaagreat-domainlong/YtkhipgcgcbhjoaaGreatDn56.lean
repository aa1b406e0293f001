import Derived.Test.YtkhipgcgcbhjoaaGreatDn55
import Derived.Deep.RegionHeld3
import Derived.Test.YtkhipgcgcbhjoaaGreatDn50
import Derived.Test.YtkhipgcgcbhjoaaGreatDn24
set_option maxRecDepth 1000000
set_option maxHeartbeats 8000000
namespace Go.Proofs.YtkhipgcgcbhjoaaGreat
namespace Do
open Go.RowKit Od Pr Nf Ma La
def tuS (x : ByteArray) : ByteArray:=if taE x = 0 then clS (rxB x) (jnS (shL (lxL x))) else ⟨#[]⟩
theorem ta_zero {x : ByteArray} (h : taE x = 0) : Ut.faultL x.data.toList < 0 ∧ seE (lxL x) (bdB (lxL x)) = 0:=by
 unfold taE at h;split at h
 ·exact ⟨‹_›,h⟩
 ·cases h
theorem touni_any {w : World} {nm b m f c g j k p d u s : Nat} (hN : Nm w nm b m f c g j k p d u s) (hB : Bk w b) {x : ByteArray} (hR : Rdy x) :
 Calls Tryz.prog 34 #[.pointer (some ⟨nm,0,none⟩),.string x] w fun e w'=>e = .returned (.tuple #[.string (tuS x),.int .i64 (taE x)]) ∧ Below w.heap.size w w':=by
 have HO:=La.hr (Ok.start w);have HRd:=La.hr (read_rdy hN hB hR);have HSe:=La.hr (fun (W : World) (h : Below w.heap.size w W) (hf : Ut.faultL x.data.toList < 0) (ao : Option Addr) (cap : Nat) (hP : Pa W ao (lxL x))=>sent_any (cap:=cap) (hN.step h) (hB.step h) hP rfl (sc_lx hf) (hR.ll hf) (len_lx hf hR) (rxB x) (bdB (lxL x)))
 have HE : Hid (taE x = if Ut.faultL x.data.toList < 0 then seE (lxL x) (bdB (lxL x)) else 3):=rfl
 have HS : Hid (tuS x = if taE x = 0 then clS (rxB x) (jnS (shL (lxL x))) else ⟨#[]⟩):=rfl
 have HA:=La.hr (fun (hf : Ut.faultL x.data.toList < 0)=>sc_lx hf)
 have HL:=La.hr hR.ll
 have HLn:=La.hr (fun (hf : Ut.faultL x.data.toList < 0)=>len_lx hf hR)
 clear hN hB hR;generalize taE x = ee at *;generalize tuS x = es at *;generalize seS (lxL x) (rxB x) (bdB (lxL x)) = s1 at *;generalize lxL x = Ls at *;generalize rxB x = rt at *
 generalize bdB Ls = q at *;generalize seE Ls q = e1 at *;go_enter Tryz.func34,Tryz.ntmps34
 go_wp2_with fail;refine HRd.out.mono ?_;rintro e w1 ⟨⟨hf,ao,cap,rfl,hP⟩ | ⟨hf,rfl⟩,hb⟩
 ·have he:=HE.out
  rw [if_pos hf] at he;subst he;replace HO:=La.hr ((HO.out.step hb).alloc (o:=.cells #[.slice ao Ls.length cap,.bool rt,.bool q] 120))
  have HS1:=La.hr (HSe.out _ HO.out.1 hf ao cap (hP.step ((Below.refl _ _).alloc (Nat.le_refl _) _)));have HP:=La.hr (hP.step ((Below.refl _ _).alloc (Nat.le_refl _) (.cells #[.slice ao Ls.length cap,.bool rt,.bool q] 120)))
  have HC : Hid ((w1.alloc (.cells #[.slice ao Ls.length cap,.bool rt,.bool q] 120)).heap[w1.heap.size]? = some (.cells #[.slice ao Ls.length cap,.bool rt,.bool q] 120)):=heap_new w1 _
  have HA1:=La.hr (HA.out hf);have HL1:=La.hr (HL.out hf);have hn:=HLn.out hf
  have HZ : Hid ((jnS (shL Ls)).size <= 1000000):=by
   have h2:=jn_size 480 (shL Ls) (fun s hs=>by
    obtain ⟨A,hA1,rfl⟩:=List.mem_map.1 hs
    exact sh_size (HA1.out A hA1) (HL1.out A hA1))
   have h3 : (shL Ls).length = Ls.length:=by unfold shL; rw [List.length_map]
   rw [h3] at h2;show _ <= _
   omega
  have hw1:=hb.size
  clear hb hP hf HSe HRd HE HA HL HLn;by_cases h0 : ee = 0
  ·subst h0;have hs:=HS.out
   rw [if_pos rfl] at hs;subst hs;go_wp2_with fail;refine HS1.out.mono ?_;rintro e w2 ⟨rfl,hb⟩;replace HO:=La.hr (HO.out.step hb);have hlt1:=(Array.getElem?_eq_some_iff.1 HC.out).1
   have HC2:=La.hr ((hb.block w1.heap.size hlt1).trans HC.out);replace HP:=La.hr (HP.out.step hb);have hsz:=hb.size
   rw [World.size_alloc] at hsz;obtain ⟨k0,_,_⟩:=cells3 HC2.out
   clear hb HS1 HC hlt1;generalize hB1 : w1.heap.size = B1 at *;clear hB1;have HV:=La.hr (shV_next Ls);have HLen:=La.hr (Eq.refl Ls.length);obtain ⟨n,hnL⟩ : ∃ n,Ls.length = n:=⟨_,rfl⟩
   have HN:=La.hr hnL
   rw [hnL] at hn HC2 k0 ⊢
   clear hnL HLen;have H0 : Hid (w2.ownsRow w2.heap.size 9 1 (.slice none 0 0) (shV (Ls.take 0)).length (shV (Ls.take 0))):=World.ownsRow_nil _ _ _ _
   have HK0:=La.hr (Ok.start w2);go_wp2_with fail;go_loopg [10,35] n (fun gg vl vi wr=>∃ k : Nat,vi = .int .i64 k ∧ k <= n ∧ gg = n - k ∧ Hid (wr.ownsRow w2.heap.size 9 1 vl (shV (Ls.take k)).length (shV (Ls.take k))) ∧ Hid (Ok w2.heap.size w2 wr))
   case atStart=>exact ⟨0,rfl,Nat.zero_le _,rfl,H0,HK0⟩
   case round =>
    obtain ⟨k,rfl,hk,hg2,H,HR⟩:=hrel
    have HG:=La.hr hg2
    clear hg2 H0 HK0 k0;by_cases hlt : k < n
    ·have hkL : k < Ls.length:=by rw [HN.out]; exact hlt
     obtain ⟨g1,off1,pv,rfl,hg1,c1,hp1⟩:=HP.out.step HR.out.1 k hkL
     have hmem:=List.getElem_mem hkL
     have hpl : (ptP Ls[k]).length <= 1000000:=by have:=(pt_bd (HA1.out _ hmem) (HL1.out _ hmem)).1; omega
     have HV1:=La.hr (HV.out k hkL);have hvl : (shV (Ls.take k)).length <= 1000000:=by unfold shV; rw [List.length_map,List.length_take]; omega
     have z1 : (k : Int) < (n : Int):=by omega
     have hpts:=pts_any (HA1.out _ hmem) (HL1.out _ hmem) hp1
     clear hmem hp1;rcases hpts with ⟨v4,rfl,⟨an,n4,cn,rfl⟩,hcl⟩ | ⟨t4,rfl,hcl⟩ | ⟨t4,an,n4,cn,rfl,hcl⟩
     ·have HCl:=La.hr hcl
      have hmd:=fun (W : World)=>md_n (.slice an n4 cn) W
      clear hcl;go_wp2_with fail;refine HCl.out.mono ?_;rintro e w5 ⟨x5,rfl,hx5,hb5⟩;have HT:=La.hr (Ut.text_any x5 (ptP Ls[k]) w5 (Nf.od_ut hx5) hpl);rw [tv_sh] at HT
      have HO5:=La.hr (HR.out.step hb5);have HRw5:=La.hr (Ma.own_below H.out hb5);clear hx5 hb5 HCl c1;go_wp2_with fail;refine HT.out.mono ?_;rintro e w6 ⟨rfl,hb6⟩
      have HO6:=La.hr (HO5.out.step hb6);have HRw6:=La.hr (Ma.own_below HRw5.out hb6);clear hb6 HT HRw5;go_wp2_with (at_builtin; refine appT rfl (.tmp 45) (.tmp 47) rfl w6 w2.heap.size _ (shV (Ls.take k)) (shS Ls[k]) (by rfl) w6.heap.size rfl (by rfl) HRw6.out hvl HO6.out.2 (fun v' w' h1 h2=>?_); rw [<- HV1.out] at h1; have H7:=La.hr h1; have HO7 : Hid (Ok w2.heap.size w2 w'):=⟨HO6.out.1.trans h2,Nat.le_trans HO6.out.2 h2.size⟩; clear h1 h2)
      go_roundg (n - (k + 1))
      case measure=>rw [HG.out]; omega
      case rel=>exact ⟨k + 1,by go_num,by omega,rfl,H7,HO7⟩
     ·have HCl:=La.hr hcl
      have hmd:=fun (W : World)=>md_p (.string t4) W
      clear hcl;go_wp2_with fail;refine HCl.out.mono ?_;rintro e w5 ⟨x5,rfl,hx5,hb5⟩;have HT:=La.hr (Ut.text_any x5 (ptP Ls[k]) w5 (Nf.od_ut hx5) hpl);rw [tv_sh] at HT
      have HO5:=La.hr (HR.out.step hb5);have HRw5:=La.hr (Ma.own_below H.out hb5);clear hx5 hb5 HCl c1;go_wp2_with fail;refine HT.out.mono ?_;rintro e w6 ⟨rfl,hb6⟩
      have HO6:=La.hr (HO5.out.step hb6);have HRw6:=La.hr (Ma.own_below HRw5.out hb6);clear hb6 HT HRw5;go_wp2_with (at_builtin; refine appT rfl (.tmp 45) (.tmp 47) rfl w6 w2.heap.size _ (shV (Ls.take k)) (shS Ls[k]) (by rfl) w6.heap.size rfl (by rfl) HRw6.out hvl HO6.out.2 (fun v' w' h1 h2=>?_); rw [<- HV1.out] at h1; have H7:=La.hr h1; have HO7 : Hid (Ok w2.heap.size w2 w'):=⟨HO6.out.1.trans h2,Nat.le_trans HO6.out.2 h2.size⟩; clear h1 h2)
      go_roundg (n - (k + 1))
      case measure=>rw [HG.out]; omega
      case rel=>exact ⟨k + 1,by go_num,by omega,rfl,H7,HO7⟩
     ·have HCl:=La.hr hcl
      have hmd:=fun (W : World)=>md_c (.agg #[.string t4,.slice an n4 cn]) W
      clear hcl;go_wp2_with fail;refine HCl.out.mono ?_;rintro e w5 ⟨x5,rfl,hx5,hb5⟩;have HT:=La.hr (Ut.text_any x5 (ptP Ls[k]) w5 (Nf.od_ut hx5) hpl);rw [tv_sh] at HT
      have HO5:=La.hr (HR.out.step hb5);have HRw5:=La.hr (Ma.own_below H.out hb5);clear hx5 hb5 HCl c1;go_wp2_with fail;refine HT.out.mono ?_;rintro e w6 ⟨rfl,hb6⟩
      have HO6:=La.hr (HO5.out.step hb6);have HRw6:=La.hr (Ma.own_below HRw5.out hb6);clear hb6 HT HRw5;go_wp2_with (at_builtin; refine appT rfl (.tmp 45) (.tmp 47) rfl w6 w2.heap.size _ (shV (Ls.take k)) (shS Ls[k]) (by rfl) w6.heap.size rfl (by rfl) HRw6.out hvl HO6.out.2 (fun v' w' h1 h2=>?_); rw [<- HV1.out] at h1; have H7:=La.hr h1; have HO7 : Hid (Ok w2.heap.size w2 w'):=⟨HO6.out.1.trans h2,Nat.le_trans HO6.out.2 h2.size⟩; clear h1 h2)
      go_roundg (n - (k + 1))
      case measure=>rw [HG.out]; omega
      case rel=>exact ⟨k + 1,by go_num,by omega,rfl,H7,HO7⟩
    ·have e : k = n:=by omega
     subst e;have z1 : ¬ (k : Int) < (k : Int):=by omega
     have H1:=La.hr H.out
     have hwh : Hid (wr.ownsRow w2.heap.size 9 1 u10 (shV Ls).length (shV Ls)):=by
      have:=H.out
      rw [<- HN.out,List.take_length] at this;exact this
     obtain ⟨a9,c9,e9,hc9,hr9⟩:=row_at hwh.out
     have hvL : (shV Ls).length = k:=by unfold shV; rw [List.length_map,HN.out]
     rw [hvL] at e9 hc9
     subst e9;have HRw : Hid (Rw wr a9 (shV Ls)):=hr9
     have HCt:=La.hr ((HR.out.1.block B1 (by omega)).trans HC2.out);obtain ⟨m0,m1,m2⟩:=cells3 HCt.out
     have HJ:=La.hr (fun (W : World) (h : Below wr.heap.size wr W)=>joinS_any (cap:=c9) (ss:=shL Ls) (n:=k) (by have e : (shL Ls).map Value.string = shV Ls:=(by unfold shL shV; rw [List.map_map]; rfl); rw [e]; exact HRw.out.step h) (by unfold shL; rw [List.length_map,HN.out]) hc9 (by omega) HZ.out)
     have HCl:=La.hr (fun (W : World)=>closed_any W ao k cap rt q (jnS (shL Ls)) HZ.out)
     have HO2:=La.hr (HO.out.step HR.out.1);have HS0 : Hid (Ok wr.heap.size wr wr.drew):=La.hr ((Ok.start wr).step ((Below.refl _ _).drew))
     clear hr9 hc9 hvL hwh;generalize htx : jnS (shL Ls) = tx at *;have HTx:=La.hr htx
     clear htx;go_wp2_with fail;go_region_held3 (fun w'=>w'.cell? ⟨B1,0,none⟩ = some (.slice ao k cap) ∧ w'.cell? ⟨B1,1,none⟩ = some (.bool rt) ∧ w'.cell? ⟨B1,2,none⟩ = some (.bool q))
      (exact cells3 ((HS0.out.1.block B1 (Array.getElem?_eq_some_iff.1 HCt.out).1).trans HCt.out))
      (first
       | (go_at_call 78; refine (HJ.out _ HS0.out.1).mono ?_; rintro e w8 ⟨rfl,hb8⟩; have HS2:=La.hr (HS0.out.step hb8); clear HS0; have HS0:=HS2; clear HS2 hb8)
       | (go_at_call 77; refine (HCl.out _).mono ?_; rintro e w8 ⟨rfl,hb8⟩; have HS2:=La.hr (HS0.out.step hb8); clear HS0; have HS0:=HS2; clear HS2 hb8))
     all_goals go_wp2_with fail
     all_goals go_ret2
     all_goals exact ⟨by rw [HTx.out]; rfl,(HO2.out.step HS0.out.1).1⟩
  ·have hs:=HS.out
   rw [if_neg h0] at hs;subst hs;have z0 : (ee == 0) = false:=beq_eq_false_iff_ne.2 h0
   clear h0;go_wp2_with fail;refine HS1.out.mono ?_;rintro e w2 ⟨rfl,hb⟩;replace HO:=La.hr (HO.out.step hb);clear hb;go_wp2_with fail;go_ret2;exact ⟨rfl,HO.out.1⟩
 ·have he:=HE.out
  rw [if_neg (by omega)] at he;subst he;have hs:=HS.out
  rw [if_neg (by decide)] at hs;subst hs;replace HO:=La.hr ((HO.out.step hb).alloc (o:=.cells #[.slice none 0 0,.bool false,.bool false] 120))
  clear hb hf HSe HRd HE HS HA HL HLn;go_wp2_with fail;go_ret2;exact ⟨rfl,HO.out.1⟩
def ex1 : ByteArray:=⟨#[66,195,188,99,104,101,114,46,68,69]⟩
def ex2 : ByteArray:=⟨#[97,95,98]⟩
theorem e1_f : decide (Ut.faultL ex1.data.toList < 0) = true:=by kernel_rfl
theorem e1_r : Ut.runesL ex1.data.toList = [66,252,99,104,101,114,46,68,69]:=by kernel_rfl
theorem e1_m : mapP [66,252,99,104,101,114,46,68,69] = [98,252,99,104,101,114,46,100,101]:=by kernel_rfl
theorem e1_l : lbL [98,252,99,104,101,114,46,100,101] = ([[98,252,99,104,101,114],[100,101]],false):=by kernel_rfl
theorem e1_b : bdB [[98,252,99,104,101,114],[100,101]] = false:=by kernel_rfl
theorem e1_t : toF [98,252,99,104,101,114] false = 0:=by kernel_rfl
theorem e1_e : enS [98,252,99,104,101,114] = ⟨#[120,110,45,45,98,99,104,101,114,45,107,118,97]⟩:=by kernel_rfl
theorem e1_s : jnS (shL [[98,252,99,104,101,114],[100,101]]) = ⟨#[98,195,188,99,104,101,114,46,100,101]⟩:=by kernel_rfl
theorem e2_f : decide (Ut.faultL ex2.data.toList < 0) = true:=by kernel_rfl
theorem e2_r : Ut.runesL ex2.data.toList = [97,95,98]:=by kernel_rfl
theorem e2_m : mapP [97,95,98] = [97,95,98]:=by kernel_rfl
theorem e2_l : lbL [97,95,98] = ([[97,95,98]],false):=by kernel_rfl
theorem e2_b : bdB [[97,95,98]] = false:=by kernel_rfl
theorem e2_w : whF false 0 [[97,95,98]] = (0,11):=by kernel_rfl
theorem e1_rdy : Rdy ex1:=by
 refine ⟨by decide,fun _=>?_,fun _ A hA=>?_⟩
 ·rw [e1_r,e1_m]; decide
 ·unfold lxL at hA;rw [e1_r,e1_m,e1_l] at hA;simp at hA
  rcases hA with rfl | rfl <;> decide
theorem e2_rdy : Rdy ex2:=by
 refine ⟨by decide,fun _=>?_,fun _ A hA=>?_⟩
 ·rw [e2_r,e2_m]; decide
 ·unfold lxL at hA;rw [e2_r,e2_m,e2_l] at hA;simp at hA
  subst hA;decide
theorem e1_lx : lxL ex1 = [[98,252,99,104,101,114],[100,101]] ∧ rxB ex1 = false:=by unfold lxL rxB;rw [e1_r,e1_m,e1_l];exact ⟨rfl,rfl⟩
theorem e2_lx : lxL ex2 = [[97,95,98]] ∧ rxB ex2 = false:=by unfold lxL rxB;rw [e2_r,e2_m,e2_l];exact ⟨rfl,rfl⟩
theorem e1_n : plB [98,252,99,104,101,114] = false:=by decide
theorem e1_sn : snL false [[98,252,99,104,101,114],[100,101]] = [⟨#[120,110,45,45,98,99,104,101,114,45,107,118,97]⟩,⟨#[100,101]⟩]:=by
 have h1 : snS [98,252,99,104,101,114] false = ⟨#[120,110,45,45,98,99,104,101,114,45,107,118,97]⟩:=by
  unfold snS;rw [if_neg (by rw [e1_n]; decide)]
  unfold toS;rw [e1_t,if_pos rfl,e1_e]
 have h2 : snS [100,101] false = ⟨#[100,101]⟩:=by kernel_rfl
 show [snS [98,252,99,104,101,114] false,snS [100,101] false] = _
 rw [h1,h2]
theorem e1_w : (whF false 0 [[98,252,99,104,101,114],[100,101]]).2 = 0:=by
 rw [wh_zero];intro A hA
 simp at hA
 rcases hA with rfl | rfl
 ·unfold snF;rw [if_neg (by rw [e1_n]; decide),e1_t]
 ·kernel_rfl
theorem e1_ta : taE ex1 = 0 ∧ taS ex1 = ⟨#[120,110,45,45,98,99,104,101,114,45,107,118,97,46,100,101]⟩ ∧ tuS ex1 = ⟨#[98,195,188,99,104,101,114,46,100,101]⟩:=by
 have hf:=of_decide_eq_true e1_f
 have hj : jnS (snL false [[98,252,99,104,101,114],[100,101]]) = ⟨#[120,110,45,45,98,99,104,101,114,45,107,118,97,46,100,101]⟩:=by rw [e1_sn]; rfl
 have h0 : seE [[98,252,99,104,101,114],[100,101]] false = 0:=by unfold seE;rw [if_pos e1_w,hj]; rfl
 have h1 : taE ex1 = 0:=by unfold taE;rw [if_pos hf,e1_lx.1,e1_b,h0]
 refine ⟨h1,?_,?_⟩
 ·unfold taS;rw [if_pos hf,e1_lx.1,e1_lx.2,e1_b];unfold seS;rw [if_pos h0,hj]; rfl
 ·unfold tuS;rw [if_pos h1,e1_lx.1,e1_lx.2,e1_s]; rfl
theorem e2_ta : taE ex2 = 12 ∧ taS ex2 = ⟨#[]⟩ ∧ wyP ex2 = (0,11):=by
 have hf:=of_decide_eq_true e2_f
 have h0 : seE [[97,95,98]] false = 12:=by unfold seE;rw [e2_w]; rfl
 refine ⟨?_,?_,?_⟩
 ·unfold taE;rw [if_pos hf,e2_lx.1,e2_b,h0]
 ·unfold taS;rw [if_pos hf,e2_lx.1,e2_b];unfold seS;rw [h0]; rfl
 ·unfold wyP;rw [if_pos hf,e2_lx.1,e2_b,e2_w]
theorem names_any (w : World) : Calls Tryz.prog 30 #[] w fun e w'=>∃ nm b m f c g j k p d u s,e = .returned (.pointer (some ⟨nm,0,none⟩)) ∧ Nm w' nm b m f c g j k p d u s ∧ Bk w' b ∧ Below w.heap.size w w':=by
 have HO:=La.hr (Ok.start w);go_enter Tryz.func30,Tryz.ntmps30
 go_wp2_with fail;refine (newbook_any _).mono ?_;rintro e w1 ⟨b,rfl,hb,hB⟩;have HB:=La.hr hB
 replace HO:=La.hr (HO.out.step hb);clear hb hB;go_wp2_with fail;refine (Pr.new_any _).mono ?_;rintro e w2 ⟨p,d,u,s,rfl,hP,hb⟩;have HP:=La.hr hP
 replace HB:=La.hr (HB.out.step hb);replace HO:=La.hr (HO.out.step hb);clear hb hP;go_wp2_with fail;refine (dnew_any HB.out HP.out).mono ?_;rintro e w3 ⟨nm,m,f,c,g,j,k,rfl,hN,hb⟩
 have HN:=La.hr hN
 replace HB:=La.hr (HB.out.step hb);replace HO:=La.hr (HO.out.step hb);clear hb hN;go_wp2_with fail;go_ret;exact ⟨nm,b,m,f,c,g,j,k,p,d,u,s,rfl,HN.out,HB.out,HO.out.1⟩
theorem awake_any {w : World} {nm b m f c g j k p d u s : Nat} (hN : Nm w nm b m f c g j k p d u s) (hB : Bk w b) : Calls Tryz.prog 31 #[.pointer (some ⟨nm,0,none⟩)] w fun e w'=>e = .returned (.bool true) ∧ Below w.heap.size w w':=by
 have HO:=La.hr (Ok.start w);have HA:=La.hr (fun (W : World) (h : Below w.heap.size w W)=>toascii_any (hN.step h) (hB.step h) e1_rdy)
 have HU:=La.hr (fun (W : World) (h : Below w.heap.size w W)=>touni_any (hN.step h) (hB.step h) e1_rdy)
 have HA2:=La.hr (fun (W : World) (h : Below w.heap.size w W)=>toascii_any (hN.step h) (hB.step h) e2_rdy)
 have HW:=La.hr (fun (W : World) (h : Below w.heap.size w W)=>why_any (hN.step h) (hB.step h) e2_rdy)
 rw [e1_ta.1,e1_ta.2.1] at HA;rw [e1_ta.1,e1_ta.2.2] at HU;rw [e2_ta.1,e2_ta.2.1] at HA2;rw [e2_ta.2.2] at HW;unfold ex1 at HA HU;unfold ex2 at HA2 HW;clear hN hB
 go_enter Tryz.func31,Tryz.ntmps31
 go_wp2_with fail;refine (HA.out _ HO.out.1).mono ?_;rintro e w1 ⟨rfl,hb⟩;replace HO:=La.hr (HO.out.step hb);clear hb HA;go_wp2_with fail;refine (HU.out _ HO.out.1).mono ?_
 rintro e w2 ⟨rfl,hb⟩;replace HO:=La.hr (HO.out.step hb);clear hb HU;go_wp2_with fail;refine (HA2.out _ HO.out.1).mono ?_;rintro e w3 ⟨rfl,hb⟩;replace HO:=La.hr (HO.out.step hb)
 clear hb HA2;go_wp2_with fail;refine (HW.out _ HO.out.1).mono ?_;rintro e w4 ⟨rfl,hb⟩;replace HO:=La.hr (HO.out.step hb);clear hb HW;go_wp2_with fail;go_ret
 exact ⟨rfl,HO.out.1⟩
theorem same_yes {w : World} {nm b m f c g j k p d u s : Nat} (hN : Nm w nm b m f c g j k p d u s) (hB : Bk w b) {x y : ByteArray} (hx : Rdy x) (hy : Rdy y) (h1 : taE x = 0) (h2 : taE y = 0) (h3 : taS x = taS y) :
 Calls Tryz.prog 38 #[.pointer (some ⟨nm,0,none⟩),.string x,.string y] w fun e w'=>e = .returned (.bool true) ∧ Below w.heap.size w w':=by
 have HO:=La.hr (Ok.start w);have HA:=La.hr (toascii_any hN hB hx);have HU:=La.hr (fun (W : World) (h : Below w.heap.size w W)=>toascii_any (hN.step h) (hB.step h) hy)
 rw [h1,h3] at HA;rw [h2] at HU;clear hN hB hx hy h1 h2 h3;generalize taS y = t at *;have q1:=bya_eq (rfl : t = t)
 go_enter Tryz.func38,Tryz.ntmps38
 go_wp2_with fail;refine HA.out.mono ?_;rintro e w1 ⟨rfl,hb⟩;replace HO:=La.hr (HO.out.step hb);clear hb HA;go_wp2_with fail;refine (HU.out _ HO.out.1).mono ?_
 rintro e w2 ⟨rfl,hb⟩;replace HO:=La.hr (HO.out.step hb);clear hb HU;go_wp2_with fail;go_ret;exact ⟨rfl,HO.out.1⟩
end Do
end Go.Proofs.YtkhipgcgcbhjoaaGreat
namespace Go.Proofs.YtkhipgcgcbhjoaaGreat
namespace Do
open Od Pr Ha Nf Ma La
def mvS (x : S4) : Bool:=(List.range (x.2.1 - x.1 + 1).toNat).all (fun i=>lowP (x.1 + (i : Nat)) spanT == x.1 + (i : Nat) || decide (4 <= De.ofP (x.1 + (i : Nat))))
theorem mv_low : spanT.all mvS = true:=by kernel_rfl
def mvW (i : Nat) : Bool:=widP (65281 + (i : Int)) == 65281 + (i : Int) || decide (4 <= De.ofP (65281 + (i : Int)))
theorem mv_wid : (List.range 159).all mvW = true:=by kernel_rfl
theorem low_fine {r : Int} (h : ¬ 4 <= De.ofP r) : lowP r spanT = r:=by
 rcases low_val r spanT with h1 | ⟨x,hx,h1,h2,_⟩
 ·exact h1
 ·have:=List.all_eq_true.1 (List.all_eq_true.1 mv_low x hx) (r - x.1).toNat (List.mem_range.2 (by omega))
  rw [show x.1 + (((r - x.1).toNat : Nat) : Int) = r by omega,Bool.or_eq_true,beq_iff_eq,decide_eq_true_eq] at this
  exact this.resolve_right h
theorem wid_fine {r : Int} (h : ¬ 4 <= De.ofP r) : widP r = r:=by
 by_cases h1 : r < 65281 ∨ 65439 < r
 ·exact wid_far h1
 ·have:=List.all_eq_true.1 mv_wid (r - 65281).toNat (List.mem_range.2 (by omega))
  unfold mvW at this;rw [show (65281 : Int) + (((r - 65281).toNat : Nat) : Int) = r by omega,Bool.or_eq_true,beq_iff_eq,decide_eq_true_eq] at this
  exact this.resolve_right h
theorem t_fine {r : Int} (h : ¬ 4 <= De.ofP r) : tP r = r:=by unfold tP;rw [low_fine h,wid_fine h]
theorem of_stop : 4 <= De.ofP 12290:=by decide +kernel
theorem of_dot : 4 <= De.ofP 46:=by decide +kernel
theorem t_map {l : List Int} (h : ∀ x ∈ l,I32 x) : ∀ y ∈ mapP l,tP y = y ∧ y ≠ 12290:=by
 have h1 : ∀ y ∈ nfcP clsP (l.map tP),tP y = y:=by
  refine nfc_inv clsP (fun y=>tP y = y) (fun x hx=>(row_t x hx).1) (fun y h1 h2=>t_far far_jamo h1 h2 (by omega)) (fun x hx=>(row_t x hx).2) (fun y h1 h2=>t_far far_syl h1 h2 (by omega)) _ (fun x hx=>?_)
  obtain ⟨y,hy,rfl⟩:=List.mem_map.1 hx
  exact t_t y (h y hy)
 intro y hy
 obtain ⟨x,hx,rfl⟩:=List.mem_map.1 hy
 by_cases e : x = 12290
 ·subst e;exact ⟨t_far far_dot (Int.le_refl _) (Int.le_refl _) (by decide),by decide⟩
 ·rw [st_far x e];exact ⟨h1 x hx,e⟩
theorem spl_no : ∀ (l : List Int),∀ p ∈ splP l,(46 : Int) ∉ p
 | [],p,hp=>by simp [splP] at hp; subst hp; simp
 | x :: l,p,hp=>by
  rw [splP] at hp;by_cases hx : x = 46
  ·rw [if_pos hx] at hp;rcases List.mem_cons.1 hp with rfl | hp
   ·simp
   ·exact spl_no l p hp
  ·rw [if_neg hx] at hp;cases h : splP l with
   | nil=>exact absurd h (spl_ne l)
   | cons q qs =>
    rw [h] at hp;rcases List.mem_cons.1 hp with rfl | hp
    ·intro hm
     rcases List.mem_cons.1 hm with e | hm
     ·exact hx e.symm
     ·exact spl_no l q (by rw [h]; exact List.mem_cons_self) hm
    ·exact spl_no l p (by rw [h]; exact List.mem_cons_of_mem _ hp)
theorem spl_jn : ∀ (Ls : List (List Int)),Ls ≠ [] -> (∀ A ∈ Ls,(46 : Int) ∉ A) -> splP (jnP Ls) = Ls
 | [],h,_=>absurd rfl h
 | [A],_,h=>spl_one A (h A List.mem_cons_self)
 | A :: B :: Ls,_,h=>by rw [jn_cons A (by simp),spl_cut A _ (h A List.mem_cons_self),spl_jn (B :: Ls) (by simp) (fun C hC=>h C (List.mem_cons_of_mem _ hC))]
theorem spl_root (Ls : List (List Int)) (h0 : Ls ≠ []) (h : ∀ A ∈ Ls,(46 : Int) ∉ A) : splP (jnP Ls ++ [46]) = Ls ++ [[]]:=by rw [spl_stop,spl_jn Ls h0 h]
theorem lb_jn {Ls : List (List Int)} (h0 : Ls ≠ []) (h : ∀ A ∈ Ls,(46 : Int) ∉ A) (hne : ∀ A ∈ Ls,A ≠ []) : lbL (jnP Ls) = (Ls,false) ∧ lbL (jnP Ls ++ [46]) = (Ls,true):=by
 unfold lbL;rw [spl_jn Ls h0 h,spl_root Ls h0 h];refine ⟨if_neg ?_,?_⟩
 ·rintro ⟨_,h2⟩;rw [List.getLastD_eq_getLast?,List.getLast?_eq_some_getLast h0] at h2;exact hne _ (List.getLast_mem h0) h2
 ·rw [if_pos ⟨by
   have:=List.length_pos_iff.2 h0
   rw [List.length_append]; simp; omega,by rw [List.getLastD_eq_getLast?]; simp⟩]
  rw [List.dropLast_concat]
end Do
end Go.Proofs.YtkhipgcgcbhjoaaGreat
namespace Go.Proofs.YtkhipgcgcbhjoaaGreat
namespace Do
open Od Pr Nf Ma La
def lnB (x : Uc.Ln) : Bool:=decide (0 <= x.1) && (decide (x.2.1 < 55296) || (decide (57343 < x.1) && decide (x.2.1 <= 800000)) || decide (x.2.2.1 = 11))
theorem ln_all : Uc.allT.all lnB = true:=by kernel_rfl
theorem find_in (r : Int) : ∀ (l : List Uc.Ln),Uc.findL r l = Uc.zLn ∨ (Uc.findL r l ∈ l ∧ (Uc.findL r l).1 <= r ∧ r <= (Uc.findL r l).2.1)
 | []=>.inl rfl
 | x :: xs=>by
  rw [Uc.findL];split
  ·exact .inr ⟨List.mem_cons_self,by assumption⟩
  ·rcases find_in r xs with h | h
   ·exact .inl h
   ·exact .inr ⟨List.mem_cons_of_mem _ h.1,h.2⟩
theorem fine_bd {r : Int} (h : ¬ 4 <= De.ofP r) : (0 <= r ∧ r < 55296) ∨ (57343 < r ∧ r <= 800000):=by
 by_cases he : De.exP r = 0
 ·unfold De.ofP at h;rw [if_neg (by simp [he])] at h
  by_cases hk : De.knP r = 0
  ·rw [if_pos hk] at h; omega
  ·rw [if_neg hk] at h;rcases find_in r Uc.allT with hf | ⟨hm,h1,h2⟩
   ·exfalso
    apply hk
    rw [De.kn_eq];unfold De.knF;rw [hf,Uc.trOf_z]; rfl
   ·have hb:=List.all_eq_true.1 ln_all _ hm
    unfold lnB at hb;rw [Bool.and_eq_true,Bool.or_eq_true,Bool.or_eq_true,Bool.and_eq_true,decide_eq_true_eq,decide_eq_true_eq,decide_eq_true_eq,decide_eq_true_eq,decide_eq_true_eq] at hb
    rcases hb with ⟨hb0,(hb | hb) | hb⟩
    ·omega
    ·omega
    ·have hk11 : De.knP r = 11:=by
      rw [De.kn_eq];unfold De.knF Uc.trOf;have e : Uc.rkindP (Uc.findL r Uc.allT) r = 11:=by unfold Uc.rkindP;rw [hb]; rfl
      rw [e]; rfl
     rw [hk11] at h;split at h
     ·omega
     ·split at h
      ·omega
      ·split at h
       ·omega
       ·exact absurd (show (4 : Int) <= De.okP 11 by decide) h
 ·unfold De.exP at he;split at he
  ·omega
  ·split at he
   ·omega
   ·split at he
    ·omega
    ·exact absurd rfl he
theorem qk_ck : (List.range 128).all (fun i=>!exq (i : Int) && !secB (i : Int)) = true:=by kernel_rfl
theorem srt_all : ∀ (l : List Int),(∀ y ∈ l,clsP y = 0) -> srt clsP l = l
 | [],_=>rfl
 | z :: l,h=>by rw [srt_zero z (h z List.mem_cons_self),srt_all l (fun y hy=>h y (List.mem_cons_of_mem _ hy))]
theorem nfc_asc {l : List Int} (h : ∀ y ∈ l,0 <= y ∧ y < 128) : nfcP clsP l = l:=by
 have hq : ∀ y ∈ l,exq y = false ∧ secB y = false:=fun y hy=>by
  have h1:=h y hy
  have:=List.all_eq_true.1 qk_ck y.toNat (List.mem_range.2 (by omega))
  rw [show ((y.toNat : Nat) : Int) = y by omega,Bool.and_eq_true,Bool.not_eq_true',Bool.not_eq_true'] at this
  exact this
 refine quick_yes l ?_
 unfold quickP;rw [if_pos (srt_all l (fun y hy=>cls_low (h y hy).1 (h y hy).2)),if_neg,if_neg]
 ·intro e
  obtain ⟨y,hy,he⟩:=List.any_eq_true.1 e
  rw [(hq y hy).2] at he; cases he
 ·intro e
  obtain ⟨y,hy,he⟩:=List.any_eq_true.1 e
  rw [(hq y hy).1] at he; cases he
theorem ta_ck : (List.range 128).all (fun i=>(decide (65 <= i) && decide (i <= 90)) != (tP (i : Int) == (i : Int))) = true:=by kernel_rfl
theorem t_asc {y : Int} (h0 : 0 <= y) (h1 : y < 128) : tP y = y ↔ (y < 65 ∨ 90 < y):=by
 have:=List.all_eq_true.1 ta_ck y.toNat (List.mem_range.2 (by omega))
 rw [show ((y.toNat : Nat) : Int) = y by omega] at this
 by_cases h : 65 <= y ∧ y <= 90
 ·rw [decide_eq_true (by omega),decide_eq_true (by omega)] at this;constructor
  ·intro e
   rw [e] at this;simp at this
  ·intro e; omega
 ·have h2 : (decide (65 <= y.toNat) && decide (y.toNat <= 90)) = false:=by
   rw [Bool.and_eq_false_iff,decide_eq_false_iff_not,decide_eq_false_iff_not];omega
  rw [h2] at this;constructor
  ·intro _; omega
  ·intro _
   simpa using this
structure Lbl (A : List Int) : Prop where
 sc : ∀ y ∈ A,Ut.scB y = true
 tp : ∀ y ∈ A,tP y = y ∧ y ≠ 12290
 dt : (46 : Int) ∉ A
 ln : A.length <= 120
theorem Lbl.nn {A : List Int} (h : Lbl A) : ∀ y ∈ A,0 <= y ∧ y <= 1114111:=fun y hy=>by have:=(sc_iff y).1 (h.sc y hy); omega
theorem fr_false {t : ByteArray} {q : Bool} {l : List Int} (h : frR t q = (0,l)) : frR t false = (0,l):=by
 have h3:=(to_fr h).2.2
 unfold frR at h ⊢
 cases hd : deP t with
 | none=>rw [hd] at h; cases h
 | some m =>
  rw [hd] at h;simp only at h ⊢
  by_cases h63 : 63 < t.size
  ·rw [if_pos h63] at h; cases h
  ·rw [if_neg h63] at h ⊢
   by_cases hf : faP m q = 0
   ·rw [if_pos hf] at h;rw [if_pos (fa_plain hf)];exact h
   ·rw [if_neg hf] at h;injection h with e1 e2;exact absurd e1 hf
theorem fine_lbl {l : List Int} {q : Bool} (h : faP l q = 0) (hl : l.length <= 120) : Lbl l ∧ l ≠ [] ∧ nfcP clsP l = l ∧ plB l = false:=by
 obtain ⟨h1,h2,_,_,_,h3,_,_,h4⟩:=fa_fine h
 refine ⟨⟨fun y hy=>(sc_iff y).2 (by have:=fine_bd (h3 y hy); omega),fun y hy=>⟨t_fine (h3 y hy),fun e=>h3 y hy (by rw [e]; exact of_stop)⟩,fun hm=>h3 46 hm of_dot,hl⟩,h1,h2,?_⟩
 obtain ⟨y,hy,hg⟩:=List.any_eq_true.1 h4
 cases hp : plB l with
 | false=>rfl
 | true =>
  have:=pl_lt hp y hy
  unfold geB at hg;rw [decide_eq_true_eq] at hg;omega
theorem shown {A : List Int} {q : Bool} (hL : Lbl A) (h0 : snF A q = 0) : Lbl (ptP A) ∧ ptP A ≠ [] ∧ nfcP clsP (ptP A) = ptP A ∧ (ptP A).length <= A.length ∧ ptP (ptP A) = ptP A ∧ snS (ptP A) q = snS A q ∧ snF (ptP A) q = 0:=by
 cases hp : plB A with
 | false =>
  rw [pt_native hp];have h1:=h0
  unfold snF at h1;rw [if_neg (by rw [hp]; decide)] at h1
  obtain ⟨h2,_,_,_⟩:=toF_zero h1
  obtain ⟨_,h3,h4,_⟩:=fine_lbl h2 hL.ln
  exact ⟨hL,h3,h4,Nat.le_refl _,pt_native hp,rfl,h0⟩
 | true =>
  have hb:=bs_text (fun x hx=>(hL.nn x hx).1) hp
  cases hc : cdS (txS A) with
  | false =>
   rw [pt_plain hp hc];refine ⟨hL,fun e=>?_,nfc_asc (fun y hy=>⟨(hL.nn y hy).1,pl_lt hp y hy⟩),Nat.le_refl _,pt_plain hp hc,rfl,h0⟩
   unfold snF at h0;rw [if_pos hp,if_neg (by rw [hc]; decide)] at h0
   unfold olF at h0;rw [hb,e,if_neg (show ¬ oldP [] = 0 by decide)] at h0
   exact absurd h0 (by decide)
  | true =>
   have hlow : Oc.lowS (txS A) = txS A:=low_fix (fun x hx=>by rw [hb] at hx;exact (t_asc (hL.nn x hx).1 (pl_lt hp x hx)).1 (hL.tp x hx).1)
   have h1:=h0
   unfold snF at h1;rw [if_pos hp,if_pos hc,hlow] at h1;have h2 : frR (txS A) q = (0,(frR (txS A) q).2):=by rw [<- h1]
   have h3 : ptP A = (frR (txS A) q).2:=by unfold ptP;rw [if_pos hp,if_pos hc,hlow,fr_false h2]
   generalize (frR (txS A) q).2 = l at *;rw [h3];obtain ⟨e1,e2,e3⟩:=to_fr h2
   have hs:=tx_size hL.sc hp
   have hln : l.length <= A.length:=by
    have h4:=h2
    unfold frR at h4;cases hd : deP (txS A) with
    | none=>rw [hd] at h4; cases h4
    | some m =>
     have h5:=(deP_range hd).2.1
     have h6 : l = m:=by
      rw [hd] at h4;simp only at h4
      split at h4
      ·cases h4
      ·split at h4
       ·split at h4
        ·injection h4 with _ e; exact e.symm
        ·cases h4
       ·injection h4 with e _;exact absurd e (by assumption)
     rw [h6]; omega
   obtain ⟨f1,f2,f3,f4⟩:=fine_lbl e3 (Nat.le_trans hln hL.ln)
   refine ⟨f1,f2,f3,hln,pt_native f4,?_,?_⟩
   ·unfold snS;rw [if_neg (by rw [f4]; decide),if_pos hp,e2]
   ·unfold snF;rw [if_neg (by rw [f4]; decide),e1]
theorem tx_bsI (s : ByteArray) (h : ∀ x ∈ Pu.bsI s,x < 128) : txS (Pu.bsI s) = s:=by
 unfold txS;apply ByteArray.ext
 apply Array.ext'
 show Ut.textL (Pu.bsI s) = s.data.toList
 unfold Pu.bsI at h ⊢
 generalize s.data.toList = l at *;induction l with
 | nil=>rfl
 | cons b l ih =>
  have h1:=h (b.toNat : Int) (by simp)
  have hs : Ut.scB (b.toNat : Int) = true:=(sc_iff _).2 (by omega)
  rw [List.map_cons,text_cons,(enc_two hs).2.2 h1,ih (fun x hx=>h x (by simp at hx ⊢; exact .inr hx))]
  simp
theorem pl_of {A : List Int} (h : ∀ x ∈ A,x < 128) : plB A = true:=List.all_eq_true.2 (fun x hx=>decide_eq_true (h x hx))
theorem en_mem {A : List Int} (hL : Lbl A) : ∀ x ∈ Pu.encP A,(0 <= x ∧ x < 128) ∧ (x < 65 ∨ 90 < x) ∧ x ≠ 46:=fun x hx=>by
 have h1:=Pu.enc_mem (by have:=hL.ln; omega) hL.nn x hx
 rw [Pu.enc_shape] at hx;have hlow : ∀ y ∈ Pu.lowL A,(y < 65 ∨ 90 < y) ∧ y ≠ 46:=fun y hy=>by
  unfold Pu.lowL at hy;obtain ⟨m1,m2⟩:=List.mem_filter.1 hy
  have m3:=of_decide_eq_true m2
  exact ⟨(t_asc (hL.nn y m1).1 m3).1 (hL.tp y m1).1,fun e=>hL.dt (e ▸ m1)⟩
 refine ⟨by omega,?_⟩
 rcases List.mem_append.1 hx with hx | hx
 ·split at hx
  ·simp at hx
  ·rcases List.mem_append.1 hx with hx | hx
   ·exact hlow x hx
   ·simp at hx; subst hx; decide
 ·have h2:=Pu.del_mem (by have:=hL.ln; omega) _ _ (Pu.ES.start_ok A hL.nn) x hx
  have h3:=Pu.del_low (by have:=hL.ln; omega) _ _ (Pu.ES.start_ok A hL.nn) x hx
  omega
theorem resent {A : List Int} {q : Bool} (hL : Lbl A) (h0 : snF A q = 0) : Lbl (Pu.bsI (snS A q)) ∧ Pu.bsI (snS A q) ≠ [] ∧ nfcP clsP (Pu.bsI (snS A q)) = Pu.bsI (snS A q) ∧ txS (Pu.bsI (snS A q)) = snS A q ∧ ptP (Pu.bsI (snS A q)) = ptP A ∧ snS (Pu.bsI (snS A q)) q = snS A q ∧ snF (Pu.bsI (snS A q)) q = 0:=by
 cases hp : plB A with
 | true =>
  have hb:=bs_text (fun x hx=>(hL.nn x hx).1) hp
  have hs : snS A q = txS A:=by unfold snS; rw [if_pos hp]
  rw [hs,hb];refine ⟨hL,fun e=>?_,nfc_asc (fun y hy=>⟨(hL.nn y hy).1,pl_lt hp y hy⟩),rfl,rfl,hs,h0⟩
  have h1:=(shown hL h0).2.1
  have h2:=(shown hL h0).2.2.2.1
  exact h1 (List.eq_nil_of_length_eq_zero (by have e2 : A.length = 0:=(by rw [e]; rfl); omega))
 | false =>
  have h1:=h0
  unfold snF at h1;rw [if_neg (by rw [hp]; decide)] at h1
  obtain ⟨h2,_,h3,h4⟩:=toF_zero h1
  have hs : snS A q = enS A:=by unfold snS; rw [if_neg (by rw [hp]; decide),h4]
  have hg : Pu.bsI (enS A) = [120,110,45,45] ++ Pu.encP A:=bsI_enS (by have:=hL.ln; omega) hL.nn
  have hsm : Pu.Sm A:=by
   have h5:=Pu.enc_ge hL.nn
   have h6:=enS_size A
   refine .inr ⟨by omega,fun z hz=>?_⟩
   have:=fine_bd ((fa_fine h2).2.2.2.2.2.1 z hz)
   omega
  have hlt : ∀ x ∈ Pu.bsI (enS A),(0 <= x ∧ x < 128) ∧ (x < 65 ∨ 90 < x) ∧ x ≠ 46:=fun x hx=>by
   rw [hg] at hx;rcases List.mem_append.1 hx with hx | hx
   ·simp at hx
    rcases hx with rfl | rfl | rfl <;> decide
   ·exact en_mem hL x hx
  have htx:=tx_bsI (enS A) (fun x hx=>(hlt x hx).1.2)
  have hpl : plB (Pu.bsI (enS A)) = true:=pl_of (fun x hx=>(hlt x hx).1.2)
  have hcd : cdS (enS A) = true:=(deP_range (enS_deP hsm hL.nn)).2.2
  have hto : toF A false = 0:=toF_fine (fa_plain h2) hL.nn h3
  have hfr:=from_to hto hsm
  rw [(toF_zero hto).2.2.2] at hfr;have hfq:=from_to h1 hsm
  rw [h4] at hfq;rw [hs];refine ⟨⟨fun y hy=>(sc_iff y).2 (by have:=(hlt y hy).1; omega),fun y hy=>⟨(t_asc (hlt y hy).1.1 (hlt y hy).1.2).2 (hlt y hy).2.1,by have:=(hlt y hy).1; omega⟩,fun hm=>(hlt 46 hm).2.2 rfl,by rw [Pu.bsI_len]; omega⟩,?_,nfc_asc (fun y hy=>(hlt y hy).1),htx,?_,?_,?_⟩
  ·rw [hg]; simp
  ·rw [pt_native hp];unfold ptP;rw [if_pos hpl,htx,if_pos hcd,hfr]
  ·unfold snS;rw [if_pos hpl,htx]
  ·unfold snF;rw [if_pos hpl,htx,if_pos hcd,hfq]
end Do
end Go.Proofs.YtkhipgcgcbhjoaaGreat
