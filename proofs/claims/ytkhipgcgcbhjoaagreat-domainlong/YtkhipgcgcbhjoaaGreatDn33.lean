import Derived.Test.YtkhipgcgcbhjoaaGreatDn32
import Derived.BigQuiet
set_option maxRecDepth 100000
set_option maxHeartbeats 8000000
namespace Go.Proofs.YtkhipgcgcbhjoaaGreat
namespace Ru
open Go.RowKit Od
theorem drw (w : World) (n : Nat) : Below w.heap.size w (w.drewN n):=⟨rfl,rfl,rfl,Nat.le_refl _,fun _ _=>rfl⟩
abbrev noB : Int -> Bool:=fun _=>false
def hdB (q : Int -> Bool) (l : List Int) : Bool:=asF noB q l
theorem hdB_nil (q : Int -> Bool) : hdB q [] = false:=rfl
theorem hdB_cons (q : Int -> Bool) (x : Int) (l : List Int) : hdB q (x :: l) = q x:=by unfold hdB asF;rw [if_neg (by simp)]
def metR (r : Int) (X : List Int) (i : Nat) : Bool :=
 if r = 8204 then hdB (fun x=>clsP x == 9) (X.take i).reverse || joB X i
 else if r = 8205 then hdB (fun x=>clsP x == 9) (X.take i).reverse
 else if r = 183 then hdB (fun x=>x == 108) (X.take i).reverse && hdB (fun x=>x == 108) (X.drop (i + 1))
 else if r = 885 then hdB (fun x=>decide (scP x ∈ [2])) (X.drop (i + 1))
 else if r = 1523 ∨ r = 1524 then hdB (fun x=>decide (scP x ∈ [4])) (X.take i).reverse
 else if r = 12539 then X.any fun x=>decide (scP x ∈ [8,9,10])
 else if arB r = true then !X.any etB
 else if etB r = true then !X.any arB
 else true
structure Ms (w : World) (v b : Nat) (ao : Option Addr) (n cap : Nat) (X : List Int) (pv pi : Nat) (i : Nat) (W : World) : Prop where
 vw : Vw W v b ao n cap X
 bv : Bx W pv (.pointer (some ⟨v,0,none⟩)) 158
 bi : Bx W pi (.int .i64 i) 3
 ok : Ok w.heap.size w W
theorem Ms.step {w : World} {v b : Nat} {ao : Option Addr} {n cap : Nat} {X : List Int} {pv pi i : Nat} {W W' : World} (h : Ms w v b ao n cap X pv pi i W) (hb : Below W.heap.size W W') : Ms w v b ao n cap X pv pi i W':=⟨h.vw.step hb,h.bv.step hb,h.bi.step hb,h.ok.step hb⟩
theorem ahead_any {w W : World} {v b : Nat} {ao : Option Addr} {n cap : Nat} {X : List Int} {pv pi i : Nat} (hM : Ms w v b ao n cap X pv pi i W) (hn : n <= 1000000) (hi : i < n) {gq : Nat} {pq cq : Array Value} {q : Int -> Bool} {Gq : World -> Prop} (hQ : Ask gq pq cq q Gq) (h2 : Gq W) :
 Calls Tryz.prog 165 #[.func (.func gq) pq cq,.pointer (some ⟨pv,0,none⟩),.pointer (some ⟨pi,0,none⟩)] W fun e w'=>e = .returned (.bool (hdB q (X.take i).reverse)) ∧ Below W.heap.size W w':=by
 have HN:=hr (next_dn hM.vw hn i (by omega) ask_no hQ trivial h2);have c0:=hM.bv.cell
 have c1:=hM.bi.cell
 have HE : Hid (hdB q (X.take i).reverse = asF (fun _=>false) q (X.take i).reverse):=rfl
 clear hM hn hi hQ h2;generalize asF (fun _=>false) q (X.take i).reverse = t at *
 go_enter Tryz.func165,Tryz.ntmps165
 go_wp2_with fail;refine HN.out.mono ?_;rintro e w1 ⟨rfl,hb⟩;have HB:=hr hb
 clear hb;go_wp2_with fail;go_ret;exact ⟨ret_bool HE.out.symm,HB.out⟩
theorem behind_any {w W : World} {v b : Nat} {ao : Option Addr} {n cap : Nat} {X : List Int} {pv pi i : Nat} (hM : Ms w v b ao n cap X pv pi i W) (hn : n <= 1000000) (hi : i < n) {gq : Nat} {pq cq : Array Value} {q : Int -> Bool} {Gq : World -> Prop} (hQ : Ask gq pq cq q Gq) (h2 : Gq W) :
 Calls Tryz.prog 168 #[.func (.func gq) pq cq,.pointer (some ⟨pv,0,none⟩),.pointer (some ⟨pi,0,none⟩)] W fun e w'=>e = .returned (.bool (hdB q (X.drop (i + 1)))) ∧ Below W.heap.size W w':=by
 have HN:=hr (next_up hM.vw hn i (by omega) ask_no hQ trivial h2);have c0:=hM.bv.cell
 have c1:=hM.bi.cell
 have HE : Hid (hdB q (X.drop (i + 1)) = asF (fun _=>false) q (X.drop (i + 1))):=rfl
 clear hM hn hi hQ h2;generalize asF (fun _=>false) q (X.drop (i + 1)) = t at *
 go_enter Tryz.func168,Tryz.ntmps168
 go_wp2_with fail;refine HN.out.mono ?_;rintro e w1 ⟨rfl,hb⟩;have HB:=hr hb
 clear hb;go_wp2_with fail;go_ret;exact ⟨ret_bool HE.out.symm,HB.out⟩
theorem met_any {w : World} {v b : Nat} {ao : Option Addr} {n cap : Nat} {X : List Int} (hV : Vw w v b ao n cap X) (hn : n <= 1000000) (i : Nat) (hi : i < n) (hx : i < X.length) :
 Calls Tryz.prog 103 #[.pointer (some ⟨v,0,none⟩),.int .i64 i] w fun e w'=>e = .returned (.bool (metR X[i] X i)) ∧ Below w.heap.size w w':=by
 obtain ⟨bb,off,hao,hb,d1⟩:=hV.sl.at_ i hx
 subst hao;have HAh:=hr (fun (W : World) (h : Ms w v b (some ⟨bb,off,none⟩) n cap X w.heap.size (w.heap.size + 1) i W) (gq : Nat) (pq cq : Array Value) (q : Int -> Bool) (Gq : World -> Prop) (hQ : Ask gq pq cq q Gq) (h2 : Gq W)=>ahead_any h hn hi hQ h2)
 have HBe:=hr (fun (W : World) (h : Ms w v b (some ⟨bb,off,none⟩) n cap X w.heap.size (w.heap.size + 1) i W) (gq : Nat) (pq cq : Array Value) (q : Int -> Bool) (Gq : World -> Prop) (hQ : Ask gq pq cq q Gq) (h2 : Gq W)=>behind_any h hn hi hQ h2)
 have HJo:=hr (fun (W : World) (h : Ms w v b (some ⟨bb,off,none⟩) n cap X w.heap.size (w.heap.size + 1) i W)=>joins_any h.vw hn i hi)
 have HSc:=hr (fun (A : World) (l : List Int) (n : Nat) (g : Nat) (h : Vb A v b) (hn : n = l.length) (hg : g = A.heap.size)=>scr_new h l n hn g hg)
 have HAr:=hr (fun (r : Int) (W : World)=>ar_any r W)
 have HEt:=hr (fun (r : Int) (W : World)=>et_any r W)
 have hb0 : Below w.heap.size w ((w.alloc (.cells #[.pointer (some ⟨v,0,none⟩)] 158)).alloc (.cells #[.int .i64 i] 3)):=((Below.refl _ _).alloc (Nat.le_refl _) _).alloc (by simp) _
 have x1 : Bx (w.alloc (.cells #[.pointer (some ⟨v,0,none⟩)] 158)) w.heap.size (.pointer (some ⟨v,0,none⟩)) 158:=Bx.new _ _ _
 have x2:=x1.alloc (.cells #[.int .i64 i] 3)
 have x3 : Bx ((w.alloc (.cells #[.pointer (some ⟨v,0,none⟩)] 158)).alloc (.cells #[.int .i64 i] 3)) (w.heap.size + 1) (.int .i64 i) 3:=by
  have h:=Bx.new (w.alloc (.cells #[.pointer (some ⟨v,0,none⟩)] 158)) (.int .i64 i) 3
  have e : (w.alloc (.cells #[.pointer (some ⟨v,0,none⟩)] 158)).heap.size = w.heap.size + 1:=by simp
  rw [e] at h;exact h
 have H0 : Hid (Ms w v b (some ⟨bb,off,none⟩) n cap X w.heap.size (w.heap.size + 1) i ((w.alloc (.cells #[.pointer (some ⟨v,0,none⟩)] 158)).alloc (.cells #[.int .i64 i] 3))):=⟨hV.step hb0,x2,x3,hb0,hb0.size⟩
 have e1:=x2.cell
 have e2:=x3.cell
 have e3 : ((w.alloc (.cells #[.pointer (some ⟨v,0,none⟩)] 158)).alloc (.cells #[.int .i64 i] 3)).cell? ⟨v,1,none⟩ = some (.slice (some ⟨bb,off,none⟩) n cap):=H0.out.vw.blk.cell 1
 have e4:=(hb0.cell (p:=⟨bb,off + i,none⟩) hb).trans d1
 have HM : Hid (metR X[i] X i = if X[i] = 8204 then hdB (fun x=>clsP x == 9) (X.take i).reverse || joB X i
  else if X[i] = 8205 then hdB (fun x=>clsP x == 9) (X.take i).reverse
  else if X[i] = 183 then hdB (fun x=>x == 108) (X.take i).reverse && hdB (fun x=>x == 108) (X.drop (i + 1))
  else if X[i] = 885 then hdB (fun x=>decide (scP x ∈ [2])) (X.drop (i + 1))
  else if X[i] = 1523 ∨ X[i] = 1524 then hdB (fun x=>decide (scP x ∈ [4])) (X.take i).reverse
  else if X[i] = 12539 then X.any fun x=>decide (scP x ∈ [8,9,10])
  else if arB X[i] = true then !X.any etB
  else if etB X[i] = true then !X.any arB
  else true):=rfl
 generalize X[i] = r at *;have HT : Hid (metR r X i = metR r X i):=rfl
 clear hV hn hb d1 hb0 x1 x2 x3;have z1 : (i : Int) < (n : Int):=by omega
 by_cases h8204 : r = 8204
 ·rw [if_pos h8204] at HM;have p : (r == 8204) = true:=beq_iff_eq.2 h8204
  clear h8204;go_enter Tryz.func103,Tryz.ntmps103
  go_wp2_with fail;go_quiet (fail)
  have H1:=hr (H0.out.step (drw _ nq));clear e1 e2 e3 e4 H0;generalize World.drewN ((w.alloc (.cells #[.pointer (some ⟨v,0,none⟩)] 158)).alloc (.cells #[.int .i64 i] 3)) nq = W1 at *
  have c0:=H1.out.bv.cell
  have c1:=H1.out.bi.cell
  go_wp2_with fail;refine (HAh.out _ H1.out _ _ _ _ _ (ask_vir v b) H1.out.vw.vb).mono ?_;rintro e W2 ⟨rfl,hb⟩;have H2:=hr (H1.out.step hb);clear hb;have c02:=H2.out.bv.cell
  have c12:=H2.out.bi.cell
  generalize hdB (fun x=>clsP x == 9) (X.take i).reverse = q1 at *
  cases q1
  ·rw [Bool.false_or] at HM;go_wp2_with fail;refine (HJo.out _ H2.out).mono ?_;rintro e W3 ⟨rfl,hb⟩;have H3:=hr (H2.out.step hb);clear hb;have c03:=H3.out.bv.cell
   have c13:=H3.out.bi.cell
   go_wp2_with fail;go_ret;exact ⟨ret_bool HM.out.symm,H3.out.ok.1⟩
  ·rw [Bool.true_or] at HM;go_wp2_with fail;go_ret;exact ⟨ret_bool HM.out.symm,H2.out.ok.1⟩
 by_cases h8205 : r = 8205
 ·rw [if_neg h8204,if_pos h8205] at HM;have n8204 : (r == 8204) = false:=beq_eq_false_iff_ne.2 (by omega)
  have p : (r == 8205) = true:=beq_iff_eq.2 h8205
  clear h8204 h8205;go_enter Tryz.func103,Tryz.ntmps103
  go_wp2_with fail;go_quiet (fail)
  have H1:=hr (H0.out.step (drw _ nq));clear e1 e2 e3 e4 H0;generalize World.drewN ((w.alloc (.cells #[.pointer (some ⟨v,0,none⟩)] 158)).alloc (.cells #[.int .i64 i] 3)) nq = W1 at *
  have c0:=H1.out.bv.cell
  have c1:=H1.out.bi.cell
  go_wp2_with fail;refine (HAh.out _ H1.out _ _ _ _ _ (ask_vir v b) H1.out.vw.vb).mono ?_;rintro e W2 ⟨rfl,hb⟩;have H2:=hr (H1.out.step hb);clear hb;have c02:=H2.out.bv.cell
  have c12:=H2.out.bi.cell
  generalize hdB (fun x=>clsP x == 9) (X.take i).reverse = q1 at *
  go_wp2_with fail;go_ret;exact ⟨ret_bool HM.out.symm,H2.out.ok.1⟩
 by_cases h183 : r = 183
 ·rw [if_neg h8204,if_neg h8205,if_pos h183] at HM;have n8204 : (r == 8204) = false:=beq_eq_false_iff_ne.2 (by omega)
  have n8205 : (r == 8205) = false:=beq_eq_false_iff_ne.2 (by omega)
  have p : (r == 183) = true:=beq_iff_eq.2 h183
  clear h8204 h8205 h183;go_enter Tryz.func103,Tryz.ntmps103
  go_wp2_with fail;go_quiet (fail)
  have H1:=hr (H0.out.step (drw _ nq));clear e1 e2 e3 e4 H0;generalize World.drewN ((w.alloc (.cells #[.pointer (some ⟨v,0,none⟩)] 158)).alloc (.cells #[.int .i64 i] 3)) nq = W1 at *
  have c0:=H1.out.bv.cell
  have c1:=H1.out.bi.cell
  go_wp2_with fail;refine (HAh.out _ H1.out _ _ _ _ _ ask_el trivial).mono ?_;rintro e W2 ⟨rfl,hb⟩;have H2:=hr (H1.out.step hb);clear hb;have c02:=H2.out.bv.cell
  have c12:=H2.out.bi.cell
  generalize hdB (fun x=>x == 108) (X.take i).reverse = q1 at *
  cases q1
  ·rw [Bool.false_and] at HM;go_wp2_with fail;go_ret;exact ⟨ret_bool HM.out.symm,H2.out.ok.1⟩
  ·rw [Bool.true_and] at HM;go_wp2_with fail;refine (HBe.out _ H2.out _ _ _ _ _ ask_el trivial).mono ?_;rintro e W3 ⟨rfl,hb⟩;have H3:=hr (H2.out.step hb);clear hb
   have c03:=H3.out.bv.cell
   have c13:=H3.out.bi.cell
   generalize hdB (fun x=>x == 108) (X.drop (i + 1)) = q2 at *
   go_wp2_with fail;go_ret;exact ⟨ret_bool HM.out.symm,H3.out.ok.1⟩
 by_cases h885 : r = 885
 ·rw [if_neg h8204,if_neg h8205,if_neg h183,if_pos h885] at HM;have n8204 : (r == 8204) = false:=beq_eq_false_iff_ne.2 (by omega)
  have n8205 : (r == 8205) = false:=beq_eq_false_iff_ne.2 (by omega)
  have n183 : (r == 183) = false:=beq_eq_false_iff_ne.2 (by omega)
  have p : (r == 885) = true:=beq_iff_eq.2 h885
  clear h8204 h8205 h183 h885;go_enter Tryz.func103,Tryz.ntmps103
  go_wp2_with fail;go_quiet (fail)
  have H1:=hr (H0.out.step (drw _ nq));clear e1 e2 e3 e4 H0;generalize World.drewN ((w.alloc (.cells #[.pointer (some ⟨v,0,none⟩)] 158)).alloc (.cells #[.int .i64 i] 3)) nq = W1 at *
  have c0:=H1.out.bv.cell
  have c1:=H1.out.bi.cell
  go_wp2_with fail;refine (HSc.out W1 [2] 1 _ H1.out.vw.vb rfl rfl).mono ?_;rintro e W2 ⟨po,pv,rfl,hq,hb⟩;have H2:=hr (H1.out.step hb);have HQ:=hr hq
  clear hq hb;have c02:=H2.out.bv.cell
  have c12:=H2.out.bi.cell
  go_wp2_with fail;refine (HBe.out _ H2.out _ _ _ _ _ (ask_scr v b pv po W1.heap.size [2] (by simp)) HQ.out).mono ?_;rintro e W3 ⟨rfl,hb⟩;have H3:=hr (H2.out.step hb)
  clear hb;have c03:=H3.out.bv.cell
  have c13:=H3.out.bi.cell
  generalize hdB (fun x=>decide (scP x ∈ [2])) (X.drop (i + 1)) = q1 at *
  go_wp2_with fail;go_ret;exact ⟨ret_bool HM.out.symm,H3.out.ok.1⟩
 by_cases h1523 : r = 1523
 ·rw [if_neg h8204,if_neg h8205,if_neg h183,if_neg h885,if_pos (.inl h1523)] at HM;have n8204 : (r == 8204) = false:=beq_eq_false_iff_ne.2 (by omega)
  have n8205 : (r == 8205) = false:=beq_eq_false_iff_ne.2 (by omega)
  have n183 : (r == 183) = false:=beq_eq_false_iff_ne.2 (by omega)
  have n885 : (r == 885) = false:=beq_eq_false_iff_ne.2 (by omega)
  have p : (r == 1523) = true:=beq_iff_eq.2 h1523
  clear h8204 h8205 h183 h885 h1523;go_enter Tryz.func103,Tryz.ntmps103
  go_wp2_with fail;go_quiet (fail)
  have H1:=hr (H0.out.step (drw _ nq));clear e1 e2 e3 e4 H0;generalize World.drewN ((w.alloc (.cells #[.pointer (some ⟨v,0,none⟩)] 158)).alloc (.cells #[.int .i64 i] 3)) nq = W1 at *
  have c0:=H1.out.bv.cell
  have c1:=H1.out.bi.cell
  go_wp2_with fail;refine (HSc.out W1 [4] 1 _ H1.out.vw.vb rfl rfl).mono ?_;rintro e W2 ⟨po,pv,rfl,hq,hb⟩;have H2:=hr (H1.out.step hb);have HQ:=hr hq
  clear hq hb;have c02:=H2.out.bv.cell
  have c12:=H2.out.bi.cell
  go_wp2_with fail;refine (HAh.out _ H2.out _ _ _ _ _ (ask_scr v b pv po W1.heap.size [4] (by simp)) HQ.out).mono ?_;rintro e W3 ⟨rfl,hb⟩;have H3:=hr (H2.out.step hb)
  clear hb;have c03:=H3.out.bv.cell
  have c13:=H3.out.bi.cell
  generalize hdB (fun x=>decide (scP x ∈ [4])) (X.take i).reverse = q1 at *
  go_wp2_with fail;go_ret;exact ⟨ret_bool HM.out.symm,H3.out.ok.1⟩
 by_cases h1524 : r = 1524
 ·rw [if_neg h8204,if_neg h8205,if_neg h183,if_neg h885,if_pos (.inr h1524)] at HM;have n8204 : (r == 8204) = false:=beq_eq_false_iff_ne.2 (by omega)
  have n8205 : (r == 8205) = false:=beq_eq_false_iff_ne.2 (by omega)
  have n183 : (r == 183) = false:=beq_eq_false_iff_ne.2 (by omega)
  have n885 : (r == 885) = false:=beq_eq_false_iff_ne.2 (by omega)
  have n1523 : (r == 1523) = false:=beq_eq_false_iff_ne.2 (by omega)
  have p : (r == 1524) = true:=beq_iff_eq.2 h1524
  clear h8204 h8205 h183 h885 h1523 h1524;go_enter Tryz.func103,Tryz.ntmps103
  go_wp2_with fail;go_quiet (fail)
  have H1:=hr (H0.out.step (drw _ nq));clear e1 e2 e3 e4 H0;generalize World.drewN ((w.alloc (.cells #[.pointer (some ⟨v,0,none⟩)] 158)).alloc (.cells #[.int .i64 i] 3)) nq = W1 at *
  have c0:=H1.out.bv.cell
  have c1:=H1.out.bi.cell
  go_wp2_with fail;refine (HSc.out W1 [4] 1 _ H1.out.vw.vb rfl rfl).mono ?_;rintro e W2 ⟨po,pv,rfl,hq,hb⟩;have H2:=hr (H1.out.step hb);have HQ:=hr hq
  clear hq hb;have c02:=H2.out.bv.cell
  have c12:=H2.out.bi.cell
  go_wp2_with fail;refine (HAh.out _ H2.out _ _ _ _ _ (ask_scr v b pv po W1.heap.size [4] (by simp)) HQ.out).mono ?_;rintro e W3 ⟨rfl,hb⟩;have H3:=hr (H2.out.step hb)
  clear hb;have c03:=H3.out.bv.cell
  have c13:=H3.out.bi.cell
  generalize hdB (fun x=>decide (scP x ∈ [4])) (X.take i).reverse = q1 at *
  go_wp2_with fail;go_ret;exact ⟨ret_bool HM.out.symm,H3.out.ok.1⟩
 by_cases h12539 : r = 12539
 ·rw [if_neg h8204,if_neg h8205,if_neg h183,if_neg h885,if_neg (by omega),if_pos h12539] at HM;have n8204 : (r == 8204) = false:=beq_eq_false_iff_ne.2 (by omega)
  have n8205 : (r == 8205) = false:=beq_eq_false_iff_ne.2 (by omega)
  have n183 : (r == 183) = false:=beq_eq_false_iff_ne.2 (by omega)
  have n885 : (r == 885) = false:=beq_eq_false_iff_ne.2 (by omega)
  have n1523 : (r == 1523) = false:=beq_eq_false_iff_ne.2 (by omega)
  have n1524 : (r == 1524) = false:=beq_eq_false_iff_ne.2 (by omega)
  have p : (r == 12539) = true:=beq_iff_eq.2 h12539
  clear h8204 h8205 h183 h885 h1523 h1524 h12539;go_enter Tryz.func103,Tryz.ntmps103
  go_wp2_with fail;go_quiet (fail)
  have H1:=hr (H0.out.step (drw _ nq));clear e1 e2 e3 e4 H0;generalize World.drewN ((w.alloc (.cells #[.pointer (some ⟨v,0,none⟩)] 158)).alloc (.cells #[.int .i64 i] 3)) nq = W1 at *
  have c0:=H1.out.bv.cell
  have c1:=H1.out.bi.cell
  have c2 : W1.cell? ⟨v,2,none⟩ = some (.bool (X.any fun x=>decide (scP x ∈ [8,9,10]))):=H1.out.vw.blk.cell 2
  generalize (X.any fun x=>decide (scP x ∈ [8,9,10])) = q1 at *
  go_wp2_with fail;go_ret;exact ⟨ret_bool HM.out.symm,H1.out.ok.1⟩
 rw [if_neg h8204,if_neg h8205,if_neg h183,if_neg h885,if_neg (by omega),if_neg h12539] at HM;have n8204 : (r == 8204) = false:=beq_eq_false_iff_ne.2 (by omega)
 have n8205 : (r == 8205) = false:=beq_eq_false_iff_ne.2 (by omega)
 have n183 : (r == 183) = false:=beq_eq_false_iff_ne.2 (by omega)
 have n885 : (r == 885) = false:=beq_eq_false_iff_ne.2 (by omega)
 have n1523 : (r == 1523) = false:=beq_eq_false_iff_ne.2 (by omega)
 have n1524 : (r == 1524) = false:=beq_eq_false_iff_ne.2 (by omega)
 have n12539 : (r == 12539) = false:=beq_eq_false_iff_ne.2 (by omega)
 clear h8204 h8205 h183 h885 h1523 h1524 h12539;cases ha : arB r
 ·rw [ha,if_neg (by simp)] at HM;cases he : etB r
  ·rw [he,if_neg (by simp)] at HM;go_enter Tryz.func103,Tryz.ntmps103
   go_wp2_with fail;go_quiet (fail)
   have H1:=hr (H0.out.step (drw _ nq));clear e1 e2 e3 e4 H0;generalize World.drewN ((w.alloc (.cells #[.pointer (some ⟨v,0,none⟩)] 158)).alloc (.cells #[.int .i64 i] 3)) nq = W1 at *
   have c0:=H1.out.bv.cell
   have c1:=H1.out.bi.cell
   go_wp2_with fail;refine (HAr.out _ _).mono ?_;rw [ha];rintro e W2 ⟨rfl,rfl⟩;go_wp2_with fail;refine (HEt.out _ _).mono ?_;rw [he];rintro e W3 ⟨rfl,rfl⟩;go_wp2_with fail
   go_ret;exact ⟨ret_bool HM.out.symm,H1.out.ok.1⟩
  ·rw [he,if_pos rfl] at HM;go_enter Tryz.func103,Tryz.ntmps103
   go_wp2_with fail;go_quiet (fail)
   have H1:=hr (H0.out.step (drw _ nq));clear e1 e2 e3 e4 H0;generalize World.drewN ((w.alloc (.cells #[.pointer (some ⟨v,0,none⟩)] 158)).alloc (.cells #[.int .i64 i] 3)) nq = W1 at *
   have c0:=H1.out.bv.cell
   have c1:=H1.out.bi.cell
   have c3 : W1.cell? ⟨v,3,none⟩ = some (.bool (X.any arB)):=H1.out.vw.blk.cell 3
   generalize X.any arB = q1 at *;go_wp2_with fail;refine (HAr.out _ _).mono ?_;rw [ha];rintro e W2 ⟨rfl,rfl⟩;go_wp2_with fail;refine (HEt.out _ _).mono ?_;rw [he]
   rintro e W3 ⟨rfl,rfl⟩;go_wp2_with fail;go_ret;exact ⟨ret_bool HM.out.symm,H1.out.ok.1⟩
 ·rw [ha,if_pos rfl] at HM;go_enter Tryz.func103,Tryz.ntmps103
  go_wp2_with fail;go_quiet (fail)
  have H1:=hr (H0.out.step (drw _ nq));clear e1 e2 e3 e4 H0;generalize World.drewN ((w.alloc (.cells #[.pointer (some ⟨v,0,none⟩)] 158)).alloc (.cells #[.int .i64 i] 3)) nq = W1 at *
  have c0:=H1.out.bv.cell
  have c1:=H1.out.bi.cell
  have c3 : W1.cell? ⟨v,4,none⟩ = some (.bool (X.any etB)):=H1.out.vw.blk.cell 4
  generalize X.any etB = q1 at *;go_wp2_with fail;refine (HAr.out _ _).mono ?_;rw [ha];rintro e W2 ⟨rfl,rfl⟩;go_wp2_with fail;go_ret;exact ⟨ret_bool HM.out.symm,H1.out.ok.1⟩
theorem sc_row (r : Int) : scP r = (Uc.rrowP r).2.2.2.2.1:=by unfold scP;rw [Uc.book_tells r];rfl
theorem cl_row (r : Int) : clsP r = (Uc.rrowP r).2.2.2.2.2.1:=by unfold clsP;rw [Uc.book_tells r];rfl
theorem jn_row (r : Int) : jnP r = (Uc.rrowP r).2.2.2.2.2.2:=by unfold jnP;rw [Uc.book_tells r];rfl
theorem row_any (r : Int) (w : World) : Calls Tryz.prog 112 #[.int .i64 r] w fun e w'=>∃ x1 x2 x3 x4 : Int,e = .returned (.agg #[.int .i64 x1,.int .i64 x2,.int .i64 x3,.int .i64 x4,.int .i64 (scP r),.int .i64 (clsP r),.int .i64 (jnP r)]) ∧ Below w.heap.size w w':=by refine (Uc.rrow_any r w).mono ?_;rintro e w' ⟨rfl,hb⟩;rw [sc_row,cl_row,jn_row];exact ⟨_,_,_,_,rfl,hb⟩
theorem idx7 (x1 x2 x3 x4 x5 x6 x7 : Int) (w : World) : (Instr.index 169 (.agg #[.int .i64 x1,.int .i64 x2,.int .i64 x3,.int .i64 x4,.int .i64 x5,.int .i64 x6,.int .i64 x7]) (.int .i64 4)).run Tryz.prog w = .ok (.int .i64 x5) w ∧ (Instr.index 169 (.agg #[.int .i64 x1,.int .i64 x2,.int .i64 x3,.int .i64 x4,.int .i64 x5,.int .i64 x6,.int .i64 x7]) (.int .i64 5)).run Tryz.prog w = .ok (.int .i64 x6) w ∧ (Instr.index 169 (.agg #[.int .i64 x1,.int .i64 x2,.int .i64 x3,.int .i64 x4,.int .i64 x5,.int .i64 x6,.int .i64 x7]) (.int .i64 6)).run Tryz.prog w = .ok (.int .i64 x7) w:=by
 obtain ⟨i0,hi,hz0,hz1,hz2⟩:=info_parts Tryz.info_i64
 have h:=fun (i : Nat) (hl : i < 7)=>run_index_agg (P:=Tryz.prog) w 169 3 7 i0 #[.int .i64 x1,.int .i64 x2,.int .i64 x3,.int .i64 x4,.int .i64 x5,.int .i64 x6,.int .i64 x7] .i64 i Tryz.underlying169 hi hl
 refine ⟨(h 4 (by omega)).trans ?_,(h 5 (by omega)).trans ?_,(h 6 (by omega)).trans ?_⟩
 all_goals
  rw [hz1];simp [part,isAgg,run_underlying Tryz.underlying3]
def rsI (X : List Int) (i : Int) : Int:=if 0 <= i ∧ i < X.length then scP (X.getD i.toNat 0) else -1
theorem rsc_any {w : World} {v : Value} {X : List Int} (h : Sl .i64 w v X) (i : Int) :
 Calls Tryz.prog 191 #[v,.int .i64 i] w fun e w'=>e = .returned (.int .i64 (rsI X i)) ∧ Below w.heap.size w w':=by
 obtain ⟨ao,cap,rfl,h⟩:=h
 have HS:=hr h
 clear h;by_cases h0 : i < 0
 ·have HE : Hid (rsI X i = -1):=if_neg (by omega)
  go_enter Tryz.func191,Tryz.ntmps191
  go_wp2_with fail;go_ret;exact ⟨ret_int HE.out.symm,Below.refl _ _⟩
 ·by_cases h1 : (X.length : Int) <= i
  ·have HE : Hid (rsI X i = -1):=if_neg (by omega)
   generalize hlen : X.length = len at *;clear hlen;go_enter Tryz.func191,Tryz.ntmps191
   go_wp2_with fail;go_ret;exact ⟨ret_int HE.out.symm,Below.refl _ _⟩
  ·obtain ⟨k,rfl⟩ : ∃ k : Nat,i = k:=⟨i.toNat,by omega⟩
   have hlx : k < X.length:=by omega
   have HE : Hid (rsI X (k : Int) = scP X[k]):=by show _ = _;unfold rsI;rw [if_pos (by omega),Int.toNat_natCast,List.getD_eq_getElem?_getD,List.getElem?_eq_getElem hlx];rfl
   obtain ⟨b,off,rfl,hb,c1⟩:=HS.out.at_ k hlx
   have z1 : (k : Int) < (X.length : Int):=by omega
   have HR:=hr (row_any X[k] w);generalize X[k] = x at *;generalize hlen : X.length = len at *;clear hlen;go_enter Tryz.func191,Tryz.ntmps191
   go_wp2_with fail;refine HR.out.mono ?_;rintro e w1 ⟨x1,x2,x3,x4,rfl,hb1⟩;have hx:=(idx7 x1 x2 x3 x4 (scP x) (clsP x) (jnP x) w1).1
   have HB:=hr hb1
   clear hb1;go_wp2_with fail;go_ret;exact ⟨ret_int HE.out.symm,HB.out⟩
theorem rvir_any {w : World} {v : Value} {X : List Int} (h : Sl .i64 w v X) (hn : X.length <= 1000000) (i : Nat) (hi : i < X.length) :
 Calls Tryz.prog 190 #[v,.int .i64 i] w fun e w'=>e = .returned (.bool (hdB (fun x=>clsP x == 9) (X.take i).reverse)) ∧ Below w.heap.size w w':=by
 obtain ⟨ao,cap,rfl,h⟩:=h
 have HS:=hr h
 clear h;cases i with
 | zero =>
  have HE : Hid (hdB (fun x=>clsP x == 9) (X.take 0).reverse = false):=rfl
  have e0 : ((0 : Nat) : Int) = 0:=rfl
  rw [e0];clear e0;go_enter Tryz.func190,Tryz.ntmps190
  go_wp2_with fail;go_ret;exact ⟨ret_bool HE.out.symm,Below.refl _ _⟩
 | succ m =>
  have hlx : m < X.length:=by omega
  have HE : Hid (hdB (fun x=>clsP x == 9) (X.take (m + 1)).reverse = (clsP X[m] == 9)):=by show _ = _;rw [take_rev X m hlx,hdB_cons]
  obtain ⟨b,off,rfl,hb,c1⟩:=HS.out.at_ m hlx
  have z1 : (m : Int) < (X.length : Int):=by omega
  have z2 : (0 : Int) < ((m + 1 : Nat) : Int):=by omega
  have z3 : IntKind.i64.wrap (((m + 1 : Nat) : Int) - 1) = (m : Int):=by rw [IntKind.wrap_i64]; omega
  have z4 : ((m + 1 : Nat) : Int) - 1 = (m : Int):=by omega
  have HR:=hr (row_any X[m] w);generalize X[m] = x at *;generalize hlen : X.length = len at *;clear hlen;generalize hI : ((m + 1 : Nat) : Int) = I at *;clear hI
  go_enter Tryz.func190,Tryz.ntmps190
  go_wp2_with fail;refine HR.out.mono ?_;rintro e w1 ⟨x1,x2,x3,x4,rfl,hb1⟩;have hx:=(idx7 x1 x2 x3 x4 (scP x) (clsP x) (jnP x) w1).2.1
  have HB:=hr hb1
  clear hb1;go_wp2_with fail;go_ret;exact ⟨ret_bool HE.out.symm,HB.out⟩
def jnF : List Int -> Int
 | []=>-1
 | x :: l=>if jnP x = 4 then jnF l else jnP x
theorem jnF_two : ∀ l : List Int,asF (fun x=>decide (jnP x ∈ [4])) (fun x=>decide (jnP x ∈ [2])) l = (jnF l == 2)
 | []=>rfl
 | x :: l=>by
  rw [asF,jnF];by_cases h : jnP x = 4
  ·rw [if_pos (by simp [h]),if_pos h,jnF_two l]
  ·rw [if_neg (by simp [h]),if_neg h,Bool.eq_iff_iff]
   simp
theorem jnF_three : ∀ l : List Int,asF (fun x=>decide (jnP x ∈ [4])) (fun x=>decide (jnP x ∈ [2,3])) l = (jnF l == 2 || jnF l == 3)
 | []=>rfl
 | x :: l=>by
  rw [asF,jnF];by_cases h : jnP x = 4
  ·rw [if_pos (by simp [h]),if_pos h,jnF_three l]
  ·rw [if_neg (by simp [h]),if_neg h,Bool.eq_iff_iff]
   simp
theorem rjup_any {w : World} {v : Value} {X : List Int} (h : Sl .i64 w v X) (hn : X.length <= 1000000) (i : Nat) (hi : i < X.length) :
 Calls Tryz.prog 189 #[v,.int .i64 i,.bool true] w fun e w'=>e = .returned (.int .i64 (jnF (X.drop (i + 1)))) ∧ Below w.heap.size w w':=by
 obtain ⟨ao,cap,rfl,h⟩:=h
 have HS:=hr h
 have H0:=hr (Ok.start w);clear h;generalize hlen : X.length = len at *;have HLn:=hr hlen
 clear hlen;go_enter Tryz.func189,Tryz.ntmps189
 go_wp2_with fail;go_loopg [7] (len - i) (fun gg vi wr=>∃ m : Nat,vi = .int .i64 (m : Int) ∧ m < len ∧ gg = len - m ∧ Hid (jnF (X.drop (i + 1)) = jnF (X.drop (m + 1)) ∧ Ok w.heap.size w wr))
 case atStart=>exact ⟨i,rfl,hi,rfl,rfl,H0.out⟩
 case round =>
  obtain ⟨m,rfl,hm,hg,H⟩:=hrel
  have HG:=hr hg
  clear hg H0;have z0 : ¬ (m : Int) + 1 < 0:=by omega
  by_cases hlt : m + 1 < len
  ·have hlx : m + 1 < X.length:=by rw [HLn.out]; exact hlt
   obtain ⟨b,off,rfl,hb,c1⟩:=HS.out.at_ (m + 1) hlx
   have d1:=(H.out.2.1.cell (p:=⟨b,off + (m + 1),none⟩) hb).trans c1
   have HE : Hid (jnF (X.drop (i + 1)) = if jnP X[m + 1] = 4 then jnF (X.drop (m + 1 + 1)) else jnP X[m + 1]):=by show _ = _;rw [H.out.1,List.drop_eq_getElem_cons hlx]; rfl
   have HR:=hr (row_any X[m + 1] wr);generalize X[m + 1] = x at *;clear c1;obtain ⟨M,hM⟩ : ∃ M : Nat,m + 1 = M:=⟨_,rfl⟩
   have hMi : (m : Int) + 1 = (M : Int):=by omega
   rw [hM] at d1 HE
   have z1 : (M : Int) < (len : Int):=by omega
   have z2 : ¬ (M : Int) < 0:=by omega
   have z3 : ¬ (len : Int) <= (M : Int):=by omega
   have HMi:=hr hM
   clear hM z0;go_wp2_with fail;refine HR.out.mono ?_;rintro e w1 ⟨x1,x2,x3,x4,rfl,hb1⟩;have hx:=(idx7 x1 x2 x3 x4 (scP x) (clsP x) (jnP x) w1).2.2
   have H1:=hr (H.out.2.step hb1);clear hb1 HR;generalize jnP x = jj at *;by_cases hj : jj = 4
   ·rw [if_pos hj] at HE;subst hj;go_wp2_with fail;go_roundg (len - M)
    case measure=>rw [HG.out]; have:=HMi.out; omega
    case rel=>exact ⟨M,by go_num,by omega,rfl,HE.out,H1.out⟩
   ·rw [if_neg hj] at HE;have hj2 : (jj == 4) = false:=beq_eq_false_iff_ne.2 hj
    have hj3 : (jj != 4) = true:=bne_iff_ne.2 hj
    go_wp2_with fail;try rw [Exit.noGoto_ret]
    go_ret;exact ⟨ret_int HE.out.symm,H1.out.1⟩
  ·have HE : Hid (jnF (X.drop (i + 1)) = -1):=by show _ = _; rw [H.out.1,List.drop_eq_nil_of_le (by rw [HLn.out]; omega)]; rfl
   have z1 : (len : Int) <= (m : Int) + 1:=by omega
   go_wp2_with fail;try rw [Exit.noGoto_ret]
   go_ret;exact ⟨ret_int HE.out.symm,H.out.2.1⟩
theorem rjdn_any {w : World} {v : Value} {X : List Int} (h : Sl .i64 w v X) (hn : X.length <= 1000000) (i : Nat) (hi : i < X.length) :
 Calls Tryz.prog 189 #[v,.int .i64 i,.bool false] w fun e w'=>e = .returned (.int .i64 (jnF (X.take i).reverse)) ∧ Below w.heap.size w w':=by
 obtain ⟨ao,cap,rfl,h⟩:=h
 have HS:=hr h
 have H0:=hr (Ok.start w);clear h;generalize hlen : X.length = len at *;have HLn:=hr hlen
 clear hlen;go_enter Tryz.func189,Tryz.ntmps189
 go_wp2_with fail;go_loopg [7] i (fun gg vi wr=>∃ m : Nat,vi = .int .i64 (m : Int) ∧ m <= i ∧ gg = m ∧ Hid (jnF (X.take i).reverse = jnF (X.take m).reverse ∧ Ok w.heap.size w wr))
 case atStart=>exact ⟨i,rfl,Nat.le_refl _,rfl,rfl,H0.out⟩
 case round =>
  obtain ⟨m,rfl,hm,hg,H⟩:=hrel
  have HG:=hr hg
  clear hg H0;cases m with
  | zero =>
   have HE : Hid (jnF (X.take i).reverse = -1):=by show _ = _; rw [H.out.1]; rfl
   have e0 : ((0 : Nat) : Int) = 0:=rfl
   rw [e0];clear e0;go_wp2_with fail;try rw [Exit.noGoto_ret]
   go_ret;exact ⟨ret_int HE.out.symm,H.out.2.1⟩
  | succ m =>
   have hlx : m < X.length:=by rw [HLn.out]; omega
   obtain ⟨b,off,rfl,hb,c1⟩:=HS.out.at_ m hlx
   have d1:=(H.out.2.1.cell (p:=⟨b,off + m,none⟩) hb).trans c1
   have HE : Hid (jnF (X.take i).reverse = if jnP X[m] = 4 then jnF (X.take m).reverse else jnP X[m]):=by show _ = _;rw [H.out.1,take_rev X m hlx]; rfl
   have HR:=hr (row_any X[m] wr);generalize X[m] = x at *;clear c1;have z1 : (m : Int) < (len : Int):=by omega
   have z2 : ¬ (m : Int) < 0:=by omega
   have z3 : ¬ (len : Int) <= (m : Int):=by omega
   have z4 : ((m + 1 : Nat) : Int) - 1 = (m : Int):=by omega
   have z5 : IntKind.i64.wrap (((m + 1 : Nat) : Int) - 1) = (m : Int):=by rw [IntKind.wrap_i64]; omega
   generalize hI : ((m + 1 : Nat) : Int) = I at *;clear hI;go_wp2_with fail;refine HR.out.mono ?_;rintro e w1 ⟨x1,x2,x3,x4,rfl,hb1⟩;have hx:=(idx7 x1 x2 x3 x4 (scP x) (clsP x) (jnP x) w1).2.2
   have H1:=hr (H.out.2.step hb1);clear hb1 HR;generalize jnP x = jj at *;by_cases hj : jj = 4
   ·rw [if_pos hj] at HE;subst hj;go_wp2_with fail;go_roundg m
    case measure=>rw [HG.out]; omega
    case rel=>exact ⟨m,by go_num,by omega,rfl,HE.out,H1.out⟩
   ·rw [if_neg hj] at HE;have hj2 : (jj == 4) = false:=beq_eq_false_iff_ne.2 hj
    have hj3 : (jj != 4) = true:=bne_iff_ne.2 hj
    go_wp2_with fail;try rw [Exit.noGoto_ret]
    go_ret;exact ⟨ret_int HE.out.symm,H1.out.1⟩
def wnB (lo hg x : Int) : Bool:=decide (lo <= x ∧ x <= hg)
theorem rwithin_any {w : World} {v : Value} {X : List Int} (h : Sl .i64 w v X) (hn : X.length <= 1000000) (lo hg : Int) :
 Calls Tryz.prog 192 #[v,.int .i64 lo,.int .i64 hg] w fun e w'=>e = .returned (.bool (X.any (wnB lo hg))) ∧ w' = w:=by
 obtain ⟨ao,cap,rfl,h⟩:=h
 have HS:=hr h
 clear h;generalize hlen : X.length = len at *;have HLn:=hr hlen
 clear hlen;go_enter Tryz.func192,Tryz.ntmps192
 go_wp2_with fail;go_loop [7] (fun vi=>∃ k : Nat,k <= len ∧ vi = .int .i64 k ∧ Hid (∀ j (hj : j < X.length),j < k -> ¬ (lo <= X[j] ∧ X[j] <= hg))) (fun vi=>len - (intOf vi).toNat)
 case atStart=>exact ⟨0,Nat.zero_le _,rfl,fun j _ h=>by omega⟩
 case round =>
  obtain ⟨k,hk,rfl,H⟩:=hrel
  by_cases hlt : k < len
  ·have hlx : k < X.length:=by rw [HLn.out]; exact hlt
   obtain ⟨b,off,rfl,hb,c1⟩:=HS.out.at_ k hlx
   have z1 : (k : Int) < (len : Int):=by omega
   by_cases h1 : lo <= X[k]
   ·by_cases h2 : X[k] <= hg
    ·have HE : Hid ((X.any (wnB lo hg)) = true):=List.any_eq_true.2 ⟨X[k],List.getElem_mem hlx,decide_eq_true ⟨h1,h2⟩⟩
     generalize X[k] = y at *;go_wp2_with fail;try rw [Exit.noGoto_ret]
     go_ret;exact ⟨ret_bool HE.out.symm,rfl⟩
    ·have HN : Hid (∀ j (hj : j < X.length),j < k + 1 -> ¬ (lo <= X[j] ∧ X[j] <= hg)):=fun j hj h=>by
      by_cases e : j = k
      ·subst e; exact fun h=>h2 h.2
      ·exact H.out j hj (by omega)
     generalize X[k] = y at *;go_wp2_with fail;go_round
     case rel=>exact ⟨k + 1,hlt,by go_num,HN⟩
     case measure=>(simp [intOf]) <;> omega
   ·have HN : Hid (∀ j (hj : j < X.length),j < k + 1 -> ¬ (lo <= X[j] ∧ X[j] <= hg)):=fun j hj h=>by
     by_cases e : j = k
     ·subst e; exact fun h=>h1 h.1
     ·exact H.out j hj (by omega)
    generalize X[k] = y at *;go_wp2_with fail;go_round
    case rel=>exact ⟨k + 1,hlt,by go_num,HN⟩
    case measure=>(simp [intOf]) <;> omega
  ·have z1 : ¬ (k : Int) < (len : Int):=by omega
   have HE : Hid ((X.any (wnB lo hg)) = false):=by
    show _ = _;rw [List.any_eq_false];intro x hx
    obtain ⟨j,hj,rfl⟩:=List.mem_iff_getElem.1 hx
    have:=H.out j hj (by have:=HLn.out; omega)
    unfold wnB;rw [decide_eq_true_eq]; exact this
   go_wp2_with fail;go_ret;exact ⟨ret_bool HE.out.symm,rfl⟩
theorem sc_ck : Uc.bookL.all (fun x=>decide (x.v.c <= 10)) = true:=by kernel_rfl
theorem sc_le (r : Int) : scP r <= 10:=by
 have h:=Uc.get_or (fun x=>decide (x.c <= 10)) Uc.bookL Uc.zTr r (by decide) sc_ck
 exact of_decide_eq_true h
theorem sc_kana (r : Int) : decide (scP r ∈ [8,9,10]) = decide (8 <= scP r):=by
 have:=sc_le r
 apply decide_eq_decide.2
 simp
 omega
end Ru
end Go.Proofs.YtkhipgcgcbhjoaaGreat
