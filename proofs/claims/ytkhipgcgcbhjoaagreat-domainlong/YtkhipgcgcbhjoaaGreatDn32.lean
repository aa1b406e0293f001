import Derived.Test.YtkhipgcgcbhjoaaGreatDn29
import Derived.Deep.RegionHeld3
set_option maxRecDepth 100000
set_option maxHeartbeats 4000000
namespace Go.Proofs.YtkhipgcgcbhjoaaGreat
namespace Ru
open Go.RowKit Od
def scP (r : Int) : Int:=(Uc.getV Uc.zTr Uc.bookL r).c
def jnP (r : Int) : Int:=(Uc.getV Uc.zTr Uc.bookL r).e
theorem scr_any {w : World} {b : Nat} (h : Bk w b) (r : Int) : Calls Tryz.prog 235 #[.pointer (some ⟨b,0,none⟩),.int .i32 r] w fun e w'=>e = .returned (.int .i64 (scP r)) ∧ Below w.heap.size w w':=by
 obtain ⟨p,rv,hb⟩:=h
 exact Uc.script_any hb r
theorem joi_any {w : World} {b : Nat} (h : Bk w b) (r : Int) : Calls Tryz.prog 282 #[.pointer (some ⟨b,0,none⟩),.int .i32 r] w fun e w'=>e = .returned (.int .i64 (jnP r)) ∧ Below w.heap.size w w':=by
 obtain ⟨p,rv,hb⟩:=h
 exact Uc.join_any hb r
structure Vb (w : World) (v b : Nat) : Prop where
 bk : Bk w b
 lt : v < w.heap.size
 c0 : w.cell? ⟨v,0,none⟩ = some (.pointer (some ⟨b,0,none⟩))
theorem Vb.step {w w' : World} {v b : Nat} (h : Vb w v b) (hb : Below w.heap.size w w') : Vb w' v b:=⟨h.bk.step hb,Nat.lt_of_lt_of_le h.lt hb.size,(hb.cell (p:=⟨v,0,none⟩) h.lt).trans h.c0⟩
structure Qs (w : World) (v b pv po g : Nat) (l : List Int) : Prop where
 vb : Vb w v b
 bv : Bx w pv (.pointer (some ⟨v,0,none⟩)) 158
 bo : Bx w po (.slice (some ⟨g,0,none⟩) l.length l.length) 33
 ro : w.heap[g]? = some (.cells (ivs .i64 l).toArray 3)
theorem Qs.step {w w' : World} {v b pv po g : Nat} {l : List Int} (h : Qs w v b pv po g l) (hb : Below w.heap.size w w') : Qs w' v b pv po g l :=
 ⟨h.vb.step hb,h.bv.step hb,h.bo.step hb,(hb.block g (Array.getElem?_eq_some_iff.1 h.ro).1).trans h.ro⟩
theorem ro_sl {w : World} {g : Nat} {l : List Int} (h : w.heap[g]? = some (.cells (ivs .i64 l).toArray 3)) : Sl .i64 w (.slice (some ⟨g,0,none⟩) l.length l.length) l:=by
 refine ⟨some ⟨g,0,none⟩,l.length,rfl,Nat.le_refl _,fun e=>(by cases e),fun j hj=>⟨g,0,rfl,(Array.getElem?_eq_some_iff.1 h).1,?_⟩⟩
 unfold World.cell?
 rw [h];simp [ivs,hj]
theorem Qs.cells {w : World} {v b pv po g : Nat} {l : List Int} (h : Qs w v b pv po g l) : w.cell? ⟨pv,0,none⟩ = some (.pointer (some ⟨v,0,none⟩)) ∧ w.cell? ⟨po,0,none⟩ = some (.slice (some ⟨g,0,none⟩) l.length l.length) ∧ w.cell? ⟨v,0,none⟩ = some (.pointer (some ⟨b,0,none⟩)):=⟨h.bv.cell,h.bo.cell,h.vb.c0⟩
theorem scr1_any {W : World} {v b pv po g : Nat} {l : List Int} (hQ : Qs W v b pv po g l) (hl : l.length <= 1000) (x : Int) :
 Calls Tryz.prog 233 #[.int .i32 x,.pointer (some ⟨po,0,none⟩),.pointer (some ⟨pv,0,none⟩)] W fun e w'=>e = .returned (.bool (decide (scP x ∈ l))) ∧ Below W.heap.size W w':=by
 have HD : Hid (Ok W.heap.size W W.drew ∧ Qs W.drew v b pv po g l):=⟨(Ok.start W).step ((Below.refl _ _).drew),hQ.step ((Below.refl _ _).drew)⟩
 have HC:=hr (fun w (h : Vb w v b)=>scr_any h.bk x)
 have HM:=hr (fun (w : World) (y : Int) (h : Qs w v b pv po g l)=>contains_any (ro_sl h.ro) (by omega) y)
 have hstep : Hid (∀ A B,(Ok W.heap.size W A ∧ Qs A v b pv po g l) -> Below A.heap.size A B -> (Ok W.heap.size W B ∧ Qs B v b pv po g l)):=fun A B h hb=>⟨h.1.step hb,h.2.step hb⟩
 have H0:=hr hQ
 clear hQ hl;go_enter Tryz.func233,Tryz.ntmps233
 go_wp2_with fail;go_region_held3 (fun w'=>w'.cell? ⟨pv,0,none⟩ = some (.pointer (some ⟨v,0,none⟩)) ∧ w'.cell? ⟨po,0,none⟩ = some (.slice (some ⟨g,0,none⟩) l.length l.length) ∧ w'.cell? ⟨v,0,none⟩ = some (.pointer (some ⟨b,0,none⟩)))
  (first | exact HD.out.2.cells | exact H0.out.cells)
  (first | (go_at_call 235; refine (HC.out _ HD.out.2.vb).mono ?_; rintro e w' ⟨rfl,hb'⟩; replace HD:=hr (hstep.out _ _ HD.out hb'); clear hb') | (go_at_call 234; refine (HM.out _ _ HD.out.2).mono ?_; rintro e w' ⟨rfl,rfl⟩))
 all_goals go_wp2_with fail
 all_goals go_ret
 all_goals exact ⟨rfl,HD.out.1.1⟩
theorem joi1_any {W : World} {v b pv po g : Nat} {l : List Int} (hQ : Qs W v b pv po g l) (hl : l.length <= 1000) (x : Int) :
 Calls Tryz.prog 281 #[.int .i32 x,.pointer (some ⟨po,0,none⟩),.pointer (some ⟨pv,0,none⟩)] W fun e w'=>e = .returned (.bool (decide (jnP x ∈ l))) ∧ Below W.heap.size W w':=by
 have HD : Hid (Ok W.heap.size W W.drew ∧ Qs W.drew v b pv po g l):=⟨(Ok.start W).step ((Below.refl _ _).drew),hQ.step ((Below.refl _ _).drew)⟩
 have HC:=hr (fun w (h : Vb w v b)=>joi_any h.bk x)
 have HM:=hr (fun (w : World) (y : Int) (h : Qs w v b pv po g l)=>contains_any (ro_sl h.ro) (by omega) y)
 have hstep : Hid (∀ A B,(Ok W.heap.size W A ∧ Qs A v b pv po g l) -> Below A.heap.size A B -> (Ok W.heap.size W B ∧ Qs B v b pv po g l)):=fun A B h hb=>⟨h.1.step hb,h.2.step hb⟩
 have H0:=hr hQ
 clear hQ hl;go_enter Tryz.func281,Tryz.ntmps281
 go_wp2_with fail;go_region_held3 (fun w'=>w'.cell? ⟨pv,0,none⟩ = some (.pointer (some ⟨v,0,none⟩)) ∧ w'.cell? ⟨po,0,none⟩ = some (.slice (some ⟨g,0,none⟩) l.length l.length) ∧ w'.cell? ⟨v,0,none⟩ = some (.pointer (some ⟨b,0,none⟩)))
  (first | exact HD.out.2.cells | exact H0.out.cells)
  (first | (go_at_call 282; refine (HC.out _ HD.out.2.vb).mono ?_; rintro e w' ⟨rfl,hb'⟩; replace HD:=hr (hstep.out _ _ HD.out hb'); clear hb') | (go_at_call 234; refine (HM.out _ _ HD.out.2).mono ?_; rintro e w' ⟨rfl,rfl⟩))
 all_goals go_wp2_with fail
 all_goals go_ret
 all_goals exact ⟨rfl,HD.out.1.1⟩
theorem mkscr_any (v g n : Nat) (w : World) : Calls Tryz.prog 162 #[.pointer (some ⟨v,0,none⟩),.slice (some ⟨g,0,none⟩) n n] w fun e w'=>e = .returned (.func (.func 233) #[] #[.pointer (some ⟨w.heap.size + 1,0,none⟩),.pointer (some ⟨w.heap.size,0,none⟩)]) ∧ w' = (w.alloc (.cells #[.pointer (some ⟨v,0,none⟩)] 158)).alloc (.cells #[.slice (some ⟨g,0,none⟩) n n] 33):=by
 go_enter Tryz.func162,Tryz.ntmps162
 go_wp2
 go_ret;exact ⟨rfl,rfl⟩
theorem mkjoi_any (v g n : Nat) (w : World) : Calls Tryz.prog 236 #[.pointer (some ⟨v,0,none⟩),.slice (some ⟨g,0,none⟩) n n] w fun e w'=>e = .returned (.func (.func 281) #[] #[.pointer (some ⟨w.heap.size + 1,0,none⟩),.pointer (some ⟨w.heap.size,0,none⟩)]) ∧ w' = (w.alloc (.cells #[.pointer (some ⟨v,0,none⟩)] 158)).alloc (.cells #[.slice (some ⟨g,0,none⟩) n n] 33):=by
 go_enter Tryz.func236,Tryz.ntmps236
 go_wp2
 go_ret;exact ⟨rfl,rfl⟩
theorem qs_new {w : World} {v b : Nat} (h : Vb w v b) (l : List Int) (n : Nat) (hn : n = l.length) :
 Qs (((w.alloc (.cells (ivs .i64 l).toArray 3)).alloc (.cells #[.pointer (some ⟨v,0,none⟩)] 158)).alloc (.cells #[.slice (some ⟨w.heap.size,0,none⟩) n n] 33)) v b (w.heap.size + 1) (w.heap.size + 1 + 1) w.heap.size l ∧ Below w.heap.size w (((w.alloc (.cells (ivs .i64 l).toArray 3)).alloc (.cells #[.pointer (some ⟨v,0,none⟩)] 158)).alloc (.cells #[.slice (some ⟨w.heap.size,0,none⟩) n n] 33)):=by
 subst hn;have s0 : (w.alloc (.cells (ivs .i64 l).toArray 3)).heap.size = w.heap.size + 1:=by simp
 have b1 : Below w.heap.size w (w.alloc (.cells (ivs .i64 l).toArray 3)):=(Below.refl _ _).alloc (Nat.le_refl _) _
 generalize hA : w.alloc (.cells (ivs .i64 l).toArray 3) = A at *;have r1 : A.heap[w.heap.size]? = some (.cells (ivs .i64 l).toArray 3):=by rw [<- hA]; exact heap_new w _
 have b2 : Below A.heap.size A (A.alloc (.cells #[.pointer (some ⟨v,0,none⟩)] 158)):=(Below.refl _ _).alloc (Nat.le_refl _) _
 have x2 : Bx (A.alloc (.cells #[.pointer (some ⟨v,0,none⟩)] 158)) A.heap.size (.pointer (some ⟨v,0,none⟩)) 158:=Bx.new _ _ _
 have s1 : (A.alloc (.cells #[.pointer (some ⟨v,0,none⟩)] 158)).heap.size = A.heap.size + 1:=by simp
 generalize A.alloc (.cells #[.pointer (some ⟨v,0,none⟩)] 158) = C at *;have b3 : Below C.heap.size C (C.alloc (.cells #[.slice (some ⟨w.heap.size,0,none⟩) l.length l.length] 33)):=(Below.refl _ _).alloc (Nat.le_refl _) _
 have x3 : Bx (C.alloc (.cells #[.slice (some ⟨w.heap.size,0,none⟩) l.length l.length] 33)) C.heap.size (.slice (some ⟨w.heap.size,0,none⟩) l.length l.length) 33:=Bx.new _ _ _
 rw [s0] at x2;rw [s1,s0] at x3;refine ⟨⟨((h.step b1).step b2).step b3,x2.step b3,x3,?_⟩,(b1.trans (b2.mono b1.size)).trans (b3.mono (Nat.le_trans b1.size b2.size))⟩
 have r2:=(b2.block w.heap.size (by omega)).trans r1
 exact (b3.block w.heap.size (by omega)).trans r2
theorem scr_new {w : World} {v b : Nat} (h : Vb w v b) (l : List Int) (n : Nat) (hn : n = l.length) (g : Nat) (hg : g = w.heap.size) :
 Calls Tryz.prog 162 #[.pointer (some ⟨v,0,none⟩),.slice (some ⟨g,0,none⟩) n n] (w.alloc (.cells (ivs .i64 l).toArray 3)) fun e w'=>∃ po pv,e = .returned (.func (.func 233) #[] #[.pointer (some ⟨po,0,none⟩),.pointer (some ⟨pv,0,none⟩)]) ∧ Qs w' v b pv po g l ∧ Below w.heap.size w w':=by
 subst hg;refine (mkscr_any v _ n _).mono ?_;rintro e w' ⟨rfl,rfl⟩;have hq:=qs_new h l n hn
 exact ⟨_,_,rfl,by simpa using hq.1,hq.2⟩
theorem joi_new {w : World} {v b : Nat} (h : Vb w v b) (l : List Int) (n : Nat) (hn : n = l.length) (g : Nat) (hg : g = w.heap.size) :
 Calls Tryz.prog 236 #[.pointer (some ⟨v,0,none⟩),.slice (some ⟨g,0,none⟩) n n] (w.alloc (.cells (ivs .i64 l).toArray 3)) fun e w'=>∃ po pv,e = .returned (.func (.func 281) #[] #[.pointer (some ⟨po,0,none⟩),.pointer (some ⟨pv,0,none⟩)]) ∧ Qs w' v b pv po g l ∧ Below w.heap.size w w':=by
 subst hg;refine (mkjoi_any v _ n _).mono ?_;rintro e w' ⟨rfl,rfl⟩;have hq:=qs_new h l n hn
 exact ⟨_,_,rfl,by simpa using hq.1,hq.2⟩
theorem ask_scr (v b pv po g : Nat) (l : List Int) (hl : l.length <= 1000) : Ask 233 #[] #[.pointer (some ⟨po,0,none⟩),.pointer (some ⟨pv,0,none⟩)] (fun x=>decide (scP x ∈ l)) (fun W=>Qs W v b pv po g l) :=
 ⟨enters_of Tryz.func233 (by kernel_rfl) rfl,fun _ x h=>scr1_any h hl x,fun _ _ h hb=>h.step hb⟩
theorem ask_joi (v b pv po g : Nat) (l : List Int) (hl : l.length <= 1000) : Ask 281 #[] #[.pointer (some ⟨po,0,none⟩),.pointer (some ⟨pv,0,none⟩)] (fun x=>decide (jnP x ∈ l)) (fun W=>Qs W v b pv po g l) :=
 ⟨enters_of Tryz.func281 (by kernel_rfl) rfl,fun _ x h=>joi1_any h hl x,fun _ _ h hb=>h.step hb⟩
theorem vir_any {W : World} {v b : Nat} (h : Vb W v b) (x : Int) : Calls Tryz.prog 169 #[.pointer (some ⟨v,0,none⟩),.int .i32 x] W fun e w'=>e = .returned (.bool (clsP x == 9)) ∧ Below W.heap.size W w':=by
 have HC:=hr (cls_any h.bk x);have c0:=h.c0
 clear h;go_enter Tryz.func169,Tryz.ntmps169
 go_wp2_with fail;refine HC.out.mono ?_;rintro e w1 ⟨rfl,hb⟩;have HB:=hr hb
 clear hb;go_wp2_with fail;go_ret;exact ⟨rfl,HB.out⟩
theorem ask_vir (v b : Nat) : Ask 169 #[.pointer (some ⟨v,0,none⟩)] #[] (fun x=>clsP x == 9) (fun W=>Vb W v b) :=
 ⟨enters_of Tryz.func169 (by kernel_rfl) rfl,fun _ x h=>vir_any h x,fun _ _ h hb=>h.step hb⟩
def arB (r : Int) : Bool:=decide (1632 <= r ∧ r <= 1641)
def etB (r : Int) : Bool:=decide (1776 <= r ∧ r <= 1785)
theorem ar_any (r : Int) (w : World) : Calls Tryz.prog 163 #[.int .i32 r] w fun e w'=>e = .returned (.bool (arB r)) ∧ w' = w:=by
 by_cases h1 : 1632 <= r
 ·by_cases h2 : r <= 1641
  ·have HE : Hid (arB r = true):=decide_eq_true ⟨h1,h2⟩
   go_enter Tryz.func163,Tryz.ntmps163
   go_wp2_with fail;go_ret;exact ⟨ret_bool HE.out.symm,rfl⟩
  ·have HE : Hid (arB r = false):=decide_eq_false (fun h=>h2 h.2)
   go_enter Tryz.func163,Tryz.ntmps163
   go_wp2_with fail;go_ret;exact ⟨ret_bool HE.out.symm,rfl⟩
 ·have HE : Hid (arB r = false):=decide_eq_false (fun h=>h1 h.1)
  go_enter Tryz.func163,Tryz.ntmps163
  go_wp2_with fail;go_ret;exact ⟨ret_bool HE.out.symm,rfl⟩
theorem ask_ar : Ask 163 #[] #[] arB (fun _=>True) :=
 ⟨enters_of Tryz.func163 (by kernel_rfl) rfl,fun W x _=>(ar_any x W).mono fun e w' h=>⟨h.1,by rw [h.2]; exact Below.refl _ _⟩,fun _ _ _ _=>trivial⟩
theorem et_any (r : Int) (w : World) : Calls Tryz.prog 164 #[.int .i32 r] w fun e w'=>e = .returned (.bool (etB r)) ∧ w' = w:=by
 by_cases h1 : 1776 <= r
 ·by_cases h2 : r <= 1785
  ·have HE : Hid (etB r = true):=decide_eq_true ⟨h1,h2⟩
   go_enter Tryz.func164,Tryz.ntmps164
   go_wp2_with fail;go_ret;exact ⟨ret_bool HE.out.symm,rfl⟩
  ·have HE : Hid (etB r = false):=decide_eq_false (fun h=>h2 h.2)
   go_enter Tryz.func164,Tryz.ntmps164
   go_wp2_with fail;go_ret;exact ⟨ret_bool HE.out.symm,rfl⟩
 ·have HE : Hid (etB r = false):=decide_eq_false (fun h=>h1 h.1)
  go_enter Tryz.func164,Tryz.ntmps164
  go_wp2_with fail;go_ret;exact ⟨ret_bool HE.out.symm,rfl⟩
theorem ask_et : Ask 164 #[] #[] etB (fun _=>True) :=
 ⟨enters_of Tryz.func164 (by kernel_rfl) rfl,fun W x _=>(et_any x W).mono fun e w' h=>⟨h.1,by rw [h.2]; exact Below.refl _ _⟩,fun _ _ _ _=>trivial⟩
theorem el_any (r : Int) (w : World) : Calls Tryz.prog 171 #[.int .i32 r] w fun e w'=>e = .returned (.bool (r == 108)) ∧ w' = w:=by
 go_enter Tryz.func171,Tryz.ntmps171
 go_wp2_with fail;go_ret;exact ⟨rfl,rfl⟩
theorem ask_el : Ask 171 #[] #[] (fun r=>r == 108) (fun _=>True) :=
 ⟨enters_of Tryz.func171 (by kernel_rfl) rfl,fun W x _=>(el_any x W).mono fun e w' h=>⟨h.1,by rw [h.2]; exact Below.refl _ _⟩,fun _ _ _ _=>trivial⟩
theorem no_any (r : Int) (w : World) : Calls Tryz.prog 167 #[.int .i32 r] w fun e w'=>e = .returned (.bool false) ∧ w' = w:=by
 go_enter Tryz.func167,Tryz.ntmps167
 go_wp2_with fail;go_ret;exact ⟨rfl,rfl⟩
theorem ask_no : Ask 167 #[] #[] (fun _=>false) (fun _=>True) :=
 ⟨enters_of Tryz.func167 (by kernel_rfl) rfl,fun W x _=>(no_any x W).mono fun e w' h=>⟨h.1,by rw [h.2]; exact Below.refl _ _⟩,fun _ _ _ _=>trivial⟩
def Vk (w : World) (v : Nat) (c : Array Value) : Prop:=w.heap[v]? = some (.cells c 222)
theorem Vk.lt {w : World} {v : Nat} {c : Array Value} (h : Vk w v c) : v < w.heap.size:=(Array.getElem?_eq_some_iff.1 h).1
theorem Vk.cell {w : World} {v : Nat} {c : Array Value} (h : Vk w v c) (k : Nat) : w.cell? ⟨v,k,none⟩ = c[k]?:=by
 have h' : w.heap[v]? = _:=h
 simp [World.cell?,h']
theorem Vk.frozen {w : World} {v : Nat} {c : Array Value} (h : Vk w v c) (k : Nat) : w.frozen? ⟨v,k,none⟩ = false:=by
 have h' : w.heap[v]? = _:=h
 simp [World.frozen?,h']
theorem Vk.step {w w' : World} {v : Nat} {c : Array Value} (h : Vk w v c) (hb : Below w.heap.size w w') : Vk w' v c:=(hb.block v h.lt).trans h
theorem Vk.set {w : World} {v : Nat} {c : Array Value} (h : Vk w v c) (k : Nat) (u : Value) : Vk (w.setCell ⟨v,k,none⟩ u) v (c.setIfInBounds k u):=by
 have h' : w.heap[v]? = _:=h
 simp [Vk,World.setCell,Array.getElem?_modify,h']
structure Vw (w : World) (v b : Nat) (ao : Option Addr) (n cap : Nat) (X : List Int) : Prop where
 bk : Bk w b
 blk : Vk w v #[.pointer (some ⟨b,0,none⟩),.slice ao n cap,.bool (X.any fun x=>decide (scP x ∈ [8,9,10])),.bool (X.any arB),.bool (X.any etB)]
 len : X.length = n
 sl : SlP .i32 w ao cap X
theorem Vw.step {w w' : World} {v b : Nat} {ao : Option Addr} {n cap : Nat} {X : List Int} (h : Vw w v b ao n cap X) (hb : Below w.heap.size w w') : Vw w' v b ao n cap X:=⟨h.bk.step hb,h.blk.step hb,h.len,h.sl.step hb⟩
theorem Vw.vb {w : World} {v b : Nat} {ao : Option Addr} {n cap : Nat} {X : List Int} (h : Vw w v b ao n cap X) : Vb w v b:=⟨h.bk,h.blk.lt,h.blk.cell 0⟩
theorem look_any {w : World} {b : Nat} (hB : Bk w b) {ao : Option Addr} {n cap : Nat} {X : List Int} (hX : X.length = n) (hS : SlP .i32 w ao cap X) (hn : n <= 1000000) :
 Calls Tryz.prog 102 #[.pointer (some ⟨b,0,none⟩),.slice ao n cap] w fun e w'=>∃ v,e = .returned (.pointer (some ⟨v,0,none⟩)) ∧ Vw w' v b ao n cap X ∧ Below w.heap.size w w':=by
 have HB:=hr hB
 have HS:=hr hS
 have HX:=hr hX
 have hb0 : Below w.heap.size w (w.alloc (.cells #[.pointer (some ⟨b,0,none⟩),.slice ao n cap,.bool false,.bool false,.bool false] 222)):=(Below.refl _ _).alloc (Nat.le_refl _) _
 have H0 : Hid (Vk (w.alloc (.cells #[.pointer (some ⟨b,0,none⟩),.slice ao n cap,.bool false,.bool false,.bool false] 222)) w.heap.size #[.pointer (some ⟨b,0,none⟩),.slice ao n cap,.bool false,.bool false,.bool false] ∧ Below w.heap.size w (w.alloc (.cells #[.pointer (some ⟨b,0,none⟩),.slice ao n cap,.bool false,.bool false,.bool false] 222)) ∧ (w.alloc (.cells #[.pointer (some ⟨b,0,none⟩),.slice ao n cap,.bool false,.bool false,.bool false] 222)).heap.size = w.heap.size + 1):=⟨heap_new w _,hb0,by simp⟩
 clear hB hS hX hb0;have HSc:=hr (fun (A : World) (h : Vb A w.heap.size b) (e : A.heap.size = w.heap.size + 1)=>scr_new h [8,9,10] 3 rfl (w.heap.size + 1) e.symm)
 have HCt:=hr (fun (W : World) (g : Nat) (pa cb : Array Value) (q : Int -> Bool) (G : World -> Prop) (hA : Ask g pa cb q G) (hG : G W) (hw : Below w.heap.size w W)=>contf_any W ao n cap hA X HX.out (HS.out.step hw) hG hn)
 go_enter Tryz.func102,Tryz.ntmps102
 go_wp2_with fail;generalize w.alloc (.cells #[.pointer (some ⟨b,0,none⟩),.slice ao n cap,.bool false,.bool false,.bool false] 222) = A at *;refine (HSc.out A ⟨HB.out.step H0.out.2.1,H0.out.1.lt,H0.out.1.cell 0⟩ H0.out.2.2).mono ?_
 rintro e w1 ⟨po,pv,rfl,hQ,hb1⟩;have H1 : Hid (Qs w1 w.heap.size b pv po (w.heap.size + 1) [8,9,10] ∧ Vk w1 w.heap.size #[.pointer (some ⟨b,0,none⟩),.slice ao n cap,.bool false,.bool false,.bool false] ∧ Below w.heap.size w w1):=⟨hQ,H0.out.1.step hb1,H0.out.2.1.trans (hb1.mono H0.out.2.1.size)⟩
 clear hQ hb1 HSc H0;go_wp2_with fail;refine (HCt.out w1 _ _ _ _ _ (ask_scr w.heap.size b pv po (w.heap.size + 1) [8,9,10] (by simp)) H1.out.1 H1.out.2.2).mono ?_
 rintro e w2 ⟨rfl,hb2⟩;have HK : Hid (Vk w2 w.heap.size #[.pointer (some ⟨b,0,none⟩),.slice ao n cap,.bool false,.bool false,.bool false] ∧ Below w.heap.size w w2):=⟨H1.out.2.1.step hb2,H1.out.2.2.trans (hb2.mono H1.out.2.2.size)⟩
 clear H1 hb2;generalize hk1 : (X.any fun x=>decide (scP x ∈ [8,9,10])) = q1 at *
 have HK1:=hr hk1
 clear hk1;have hf:=HK.out.1.frozen 2
 have hc : w2.cell? ⟨w.heap.size,2,none⟩ = some (.bool false):=HK.out.1.cell 2
 have HK2 : Hid (Vk (w2.setCell ⟨w.heap.size,2,none⟩ (.bool q1)) w.heap.size #[.pointer (some ⟨b,0,none⟩),.slice ao n cap,.bool q1,.bool false,.bool false] ∧ Below w.heap.size w (w2.setCell ⟨w.heap.size,2,none⟩ (.bool q1))):=⟨HK.out.1.set 2 _,HK.out.2.setCell (Nat.le_refl _) _⟩
 clear HK;go_wp2_with fail;generalize w2.setCell ⟨w.heap.size,2,none⟩ (.bool q1) = w3 at *;refine (HCt.out w3 _ _ _ _ _ ask_ar trivial HK2.out.2).mono ?_;rintro e w4 ⟨rfl,hb4⟩
 have HK : Hid (Vk w4 w.heap.size #[.pointer (some ⟨b,0,none⟩),.slice ao n cap,.bool q1,.bool false,.bool false] ∧ Below w.heap.size w w4):=⟨HK2.out.1.step hb4,HK2.out.2.trans (hb4.mono HK2.out.2.size)⟩
 clear HK2 hb4 hf hc;generalize hk2 : X.any arB = q2 at *;have HKb:=hr hk2
 clear hk2;have hf:=HK.out.1.frozen 3
 have hc : w4.cell? ⟨w.heap.size,3,none⟩ = some (.bool false):=HK.out.1.cell 3
 have HK2 : Hid (Vk (w4.setCell ⟨w.heap.size,3,none⟩ (.bool q2)) w.heap.size #[.pointer (some ⟨b,0,none⟩),.slice ao n cap,.bool q1,.bool q2,.bool false] ∧ Below w.heap.size w (w4.setCell ⟨w.heap.size,3,none⟩ (.bool q2))):=⟨HK.out.1.set 3 _,HK.out.2.setCell (Nat.le_refl _) _⟩
 clear HK;go_wp2_with fail;generalize w4.setCell ⟨w.heap.size,3,none⟩ (.bool q2) = w5 at *;refine (HCt.out w5 _ _ _ _ _ ask_et trivial HK2.out.2).mono ?_;rintro e w6 ⟨rfl,hb4⟩
 have HK : Hid (Vk w6 w.heap.size #[.pointer (some ⟨b,0,none⟩),.slice ao n cap,.bool q1,.bool q2,.bool false] ∧ Below w.heap.size w w6):=⟨HK2.out.1.step hb4,HK2.out.2.trans (hb4.mono HK2.out.2.size)⟩
 clear HK2 hb4 hf hc;generalize hk3 : X.any etB = q3 at *;have HKc:=hr hk3
 clear hk3;have hf:=HK.out.1.frozen 4
 have hc : w6.cell? ⟨w.heap.size,4,none⟩ = some (.bool false):=HK.out.1.cell 4
 have HK2 : Hid (Vk (w6.setCell ⟨w.heap.size,4,none⟩ (.bool q3)) w.heap.size #[.pointer (some ⟨b,0,none⟩),.slice ao n cap,.bool q1,.bool q2,.bool q3] ∧ Below w.heap.size w (w6.setCell ⟨w.heap.size,4,none⟩ (.bool q3))):=⟨HK.out.1.set 4 _,HK.out.2.setCell (Nat.le_refl _) _⟩
 clear HK;go_wp2_with fail;go_ret;refine ⟨_,rfl,⟨HB.out.step HK2.out.2,?_,HX.out,HS.out.step HK2.out.2⟩,HK2.out.2⟩
 rw [HK1.out,HKb.out,HKc.out];exact HK2.out.1
def asF (sk q : Int -> Bool) : List Int -> Bool
 | []=>false
 | x :: l=>if sk x = true then asF sk q l else q x
theorem take_rev (X : List Int) (m : Nat) (h : m < X.length) : (X.take (m + 1)).reverse = X[m] :: (X.take m).reverse:=by rw [List.take_succ_eq_append_getElem h,List.reverse_append]; rfl
theorem next_dn {w : World} {v b : Nat} {ao : Option Addr} {n cap : Nat} {X : List Int} (hV : Vw w v b ao n cap X) (hn : n <= 1000000) (i : Nat) (hi : i <= n) {gs gq : Nat} {ps cs pq cq : Array Value} {sk q : Int -> Bool} {Gs Gq : World -> Prop}
 (hA : Ask gs ps cs sk Gs) (hQ : Ask gq pq cq q Gq) (h1 : Gs w) (h2 : Gq w) :
 Calls Tryz.prog 166 #[.pointer (some ⟨v,0,none⟩),.int .i64 i,.int .i64 (-1),.func (.func gs) ps cs,.func (.func gq) pq cq] w fun e w'=>e = .returned (.bool (asF sk q (X.take i).reverse)) ∧ Below w.heap.size w w':=by
 have HA:=hr hA
 have HQ:=hr hQ
 have hen:=hA.enter
 have hen2:=hQ.enter
 have H0 : Hid (Vw w v b ao n cap X ∧ Gs w ∧ Gq w ∧ Ok w.heap.size w w):=⟨hV,h1,h2,Ok.start w⟩
 clear hV hA hQ h1 h2;go_enter Tryz.func166,Tryz.ntmps166
 go_wp2_with fail;go_loopg [1] i (fun gg vi wr=>∃ k : Nat,vi = .int .i64 ((k : Int) - 1) ∧ k <= i ∧ gg = k ∧ Hid (asF sk q (X.take i).reverse = asF sk q (X.take k).reverse ∧ Vw wr v b ao n cap X ∧ Gs wr ∧ Gq wr ∧ Ok w.heap.size w wr))
 case atStart=>exact ⟨i,by go_num,Nat.le_refl _,rfl,rfl,H0.out⟩
 case round =>
  obtain ⟨k,rfl,hk,hg,H⟩:=hrel
  have HG:=hr hg
  clear hg H0;cases k with
  | zero =>
   have HE : Hid (asF sk q (X.take i).reverse = false):=by show _ = _; rw [H.out.1]; rfl
   have e1 : ((0 : Nat) : Int) - 1 = -1:=by omega
   rw [e1];go_wp2_with fail;go_ret;exact ⟨ret_bool HE.out.symm,H.out.2.2.2.2.1⟩
  | succ m =>
   have e1 : ((m + 1 : Nat) : Int) - 1 = (m : Int):=by omega
   rw [e1];clear e1;have hlx : m < X.length:=by rw [H.out.2.1.len]; omega
   have c1 : wr.cell? ⟨v,1,none⟩ = some (.slice ao n cap):=H.out.2.1.blk.cell 1
   obtain ⟨bb,off,rfl,hb,d1⟩:=H.out.2.1.sl.at_ m hlx
   have z0 : (0 : Int) <= (m : Int):=by omega
   have z1 : (m : Int) < (n : Int):=by omega
   have HE : Hid (asF sk q (X.take i).reverse = if sk X[m] = true then asF sk q (X.take m).reverse else q X[m]):=by show _ = _;rw [H.out.1,take_rev X m hlx]; rfl
   have HS:=hr (HA.out.call wr X[m] H.out.2.2.1);have HP:=hr (fun (W : World) (h : Gq W)=>HQ.out.call W X[m] h)
   generalize X[m] = x at *;go_wp2_with fail;refine HS.out.mono ?_;rintro e w1 ⟨rfl,hb1⟩;have H1:=hr (⟨H.out.2.1.step hb1,HA.out.keep _ _ H.out.2.2.1 hb1,HQ.out.keep _ _ H.out.2.2.2.1 hb1,H.out.2.2.2.2.step hb1⟩ : Vw w1 v b (some ⟨bb,off,none⟩) n cap X ∧ Gs w1 ∧ Gq w1 ∧ Ok w.heap.size w w1)
   have d1':=(hb1.cell (p:=⟨bb,off + m,none⟩) hb).trans d1
   have c1' : w1.cell? ⟨v,1,none⟩ = some (.slice (some ⟨bb,off,none⟩) n cap):=H1.out.1.blk.cell 1
   clear hb1 H HS c1 d1;generalize sk x = sx at *;cases sx
   ·rw [if_neg (by simp)] at HE;go_wp2_with fail;refine (HP.out w1 H1.out.2.2.1).mono ?_;rintro e w2 ⟨rfl,hb2⟩;have HO:=hr (H1.out.2.2.2.step hb2);clear hb2;go_wp2_with fail
    try rw [Exit.noGoto_ret]
    go_ret;exact ⟨ret_bool HE.out.symm,HO.out.1⟩
   ·rw [if_pos rfl] at HE;go_wp2_with fail;go_roundg m
    case measure=>rw [HG.out]; omega
    case rel=>exact ⟨m,by go_num,by omega,rfl,HE.out,H1.out⟩
theorem next_up {w : World} {v b : Nat} {ao : Option Addr} {n cap : Nat} {X : List Int} (hV : Vw w v b ao n cap X) (hn : n <= 1000000) (i : Nat) (hi : i < n) {gs gq : Nat} {ps cs pq cq : Array Value} {sk q : Int -> Bool} {Gs Gq : World -> Prop}
 (hA : Ask gs ps cs sk Gs) (hQ : Ask gq pq cq q Gq) (h1 : Gs w) (h2 : Gq w) :
 Calls Tryz.prog 166 #[.pointer (some ⟨v,0,none⟩),.int .i64 i,.int .i64 1,.func (.func gs) ps cs,.func (.func gq) pq cq] w fun e w'=>e = .returned (.bool (asF sk q (X.drop (i + 1)))) ∧ Below w.heap.size w w':=by
 have HA:=hr hA
 have HQ:=hr hQ
 have hen:=hA.enter
 have hen2:=hQ.enter
 have H0 : Hid (Vw w v b ao n cap X ∧ Gs w ∧ Gq w ∧ Ok w.heap.size w w):=⟨hV,h1,h2,Ok.start w⟩
 clear hV hA hQ h1 h2;go_enter Tryz.func166,Tryz.ntmps166
 go_wp2_with fail;go_loopg [1] (n - (i + 1)) (fun gg vi wr=>∃ m : Nat,vi = .int .i64 (m : Int) ∧ m <= n ∧ gg = n - m ∧ Hid (asF sk q (X.drop (i + 1)) = asF sk q (X.drop m) ∧ Vw wr v b ao n cap X ∧ Gs wr ∧ Gq wr ∧ Ok w.heap.size w wr))
 case atStart=>exact ⟨i + 1,by go_num,by omega,rfl,rfl,H0.out⟩
 case round =>
  obtain ⟨m,rfl,hm,hg,H⟩:=hrel
  have HG:=hr hg
  clear hg H0;have c1 : wr.cell? ⟨v,1,none⟩ = some (.slice ao n cap):=H.out.2.1.blk.cell 1
  have z0 : (0 : Int) <= (m : Int):=by omega
  by_cases hlt : m < n
  ·have hlx : m < X.length:=by rw [H.out.2.1.len]; omega
   obtain ⟨bb,off,rfl,hb,d1⟩:=H.out.2.1.sl.at_ m hlx
   have z1 : (m : Int) < (n : Int):=by omega
   have HE : Hid (asF sk q (X.drop (i + 1)) = if sk X[m] = true then asF sk q (X.drop (m + 1)) else q X[m]):=by show _ = _;rw [H.out.1,List.drop_eq_getElem_cons hlx]; rfl
   have HS:=hr (HA.out.call wr X[m] H.out.2.2.1);have HP:=hr (fun (W : World) (h : Gq W)=>HQ.out.call W X[m] h)
   generalize X[m] = x at *;go_wp2_with fail;refine HS.out.mono ?_;rintro e w1 ⟨rfl,hb1⟩;have H1:=hr (⟨H.out.2.1.step hb1,HA.out.keep _ _ H.out.2.2.1 hb1,HQ.out.keep _ _ H.out.2.2.2.1 hb1,H.out.2.2.2.2.step hb1⟩ : Vw w1 v b (some ⟨bb,off,none⟩) n cap X ∧ Gs w1 ∧ Gq w1 ∧ Ok w.heap.size w w1)
   have d1':=(hb1.cell (p:=⟨bb,off + m,none⟩) hb).trans d1
   have c1' : w1.cell? ⟨v,1,none⟩ = some (.slice (some ⟨bb,off,none⟩) n cap):=H1.out.1.blk.cell 1
   clear hb1 H HS c1 d1;generalize sk x = sx at *;cases sx
   ·rw [if_neg (by simp)] at HE;go_wp2_with fail;refine (HP.out w1 H1.out.2.2.1).mono ?_;rintro e w2 ⟨rfl,hb2⟩;have HO:=hr (H1.out.2.2.2.step hb2);clear hb2;go_wp2_with fail
    try rw [Exit.noGoto_ret]
    go_ret;exact ⟨ret_bool HE.out.symm,HO.out.1⟩
   ·rw [if_pos rfl] at HE;go_wp2_with fail;go_roundg (n - (m + 1))
    case measure=>rw [HG.out]; omega
    case rel=>exact ⟨m + 1,by go_num,by omega,rfl,HE.out,H1.out⟩
  ·have HE : Hid (asF sk q (X.drop (i + 1)) = false):=by show _ = _; rw [H.out.1,List.drop_eq_nil_of_le (by rw [H.out.2.1.len]; omega)]; rfl
   have z1 : ¬ (m : Int) < (n : Int):=by omega
   go_wp2_with fail;go_ret;exact ⟨ret_bool HE.out.symm,H.out.2.2.2.2.1⟩
def joB (X : List Int) (i : Nat) : Bool:=asF (fun x=>decide (jnP x ∈ [4])) (fun x=>decide (jnP x ∈ [2])) (X.take i).reverse && asF (fun x=>decide (jnP x ∈ [4])) (fun x=>decide (jnP x ∈ [2,3])) (X.drop (i + 1))
theorem joins_any {w : World} {v b : Nat} {ao : Option Addr} {n cap : Nat} {X : List Int} (hV : Vw w v b ao n cap X) (hn : n <= 1000000) (i : Nat) (hi : i < n) :
 Calls Tryz.prog 170 #[.pointer (some ⟨v,0,none⟩),.int .i64 i] w fun e w'=>e = .returned (.bool (joB X i)) ∧ Below w.heap.size w w':=by
 have HJ:=hr (fun (A : World) (l : List Int) (n : Nat) (g : Nat) (h : Vb A v b) (hn : n = l.length) (hg : g = A.heap.size)=>joi_new h l n hn g hg)
 have HD:=hr (fun (W : World) (h : Vw W v b ao n cap X) (g1 p1 v1 g2 p2 v2 : Nat) (l1 l2 : List Int) (k1 : l1.length <= 1000) (k2 : l2.length <= 1000) (q1 : Qs W v b v1 p1 g1 l1) (q2 : Qs W v b v2 p2 g2 l2)=>next_dn h hn i (by omega) (ask_joi v b v1 p1 g1 l1 k1) (ask_joi v b v2 p2 g2 l2 k2) q1 q2)
 have HU:=hr (fun (W : World) (h : Vw W v b ao n cap X) (g1 p1 v1 g2 p2 v2 : Nat) (l1 l2 : List Int) (k1 : l1.length <= 1000) (k2 : l2.length <= 1000) (q1 : Qs W v b v1 p1 g1 l1) (q2 : Qs W v b v2 p2 g2 l2)=>next_up h hn i hi (ask_joi v b v1 p1 g1 l1 k1) (ask_joi v b v2 p2 g2 l2 k2) q1 q2)
 have HB : Hid (joB X i = (asF (fun x=>decide (jnP x ∈ [4])) (fun x=>decide (jnP x ∈ [2])) (X.take i).reverse && asF (fun x=>decide (jnP x ∈ [4])) (fun x=>decide (jnP x ∈ [2,3])) (X.drop (i + 1)))):=rfl
 have H0 : Hid (Vw w v b ao n cap X ∧ Ok w.heap.size w w):=⟨hV,Ok.start w⟩
 clear hV hn hi;go_enter Tryz.func170,Tryz.ntmps170
 go_wp2_with fail;refine (HJ.out w [4] 1 _ H0.out.1.vb rfl rfl).mono ?_;rintro e w1 ⟨p1,v1,rfl,hq,hb⟩;have H1:=hr (⟨H0.out.1.step hb,H0.out.2.step hb,hq⟩ : Vw w1 v b ao n cap X ∧ Ok w.heap.size w w1 ∧ Qs w1 v b v1 p1 w.heap.size [4])
 clear hq hb H0;go_wp2_with fail;refine (HJ.out w1 [2] 1 _ H1.out.1.vb rfl rfl).mono ?_;rintro e w2 ⟨p2,v2,rfl,hq,hb⟩;have H2:=hr (⟨H1.out.1.step hb,H1.out.2.1.step hb,H1.out.2.2.step hb,hq⟩ : Vw w2 v b ao n cap X ∧ Ok w.heap.size w w2 ∧ Qs w2 v b v1 p1 w.heap.size [4] ∧ Qs w2 v b v2 p2 w1.heap.size [2])
 clear hq hb H1;go_wp2_with fail;refine (HD.out w2 H2.out.1 _ _ _ _ _ _ [4] [2] (by simp) (by simp) H2.out.2.2.1 H2.out.2.2.2).mono ?_;rintro e w3 ⟨rfl,hb⟩;have H3:=hr (⟨H2.out.1.step hb,H2.out.2.1.step hb,H2.out.2.2.1.step hb⟩ : Vw w3 v b ao n cap X ∧ Ok w.heap.size w w3 ∧ Qs w3 v b v1 p1 w.heap.size [4])
 clear hb H2;generalize asF (fun x=>decide (jnP x ∈ [4])) (fun x=>decide (jnP x ∈ [2])) (X.take i).reverse = q1 at *
 cases q1
 ·have HE : Hid (joB X i = false):=by show _ = _; rw [HB.out]; rfl
  go_wp2_with fail;go_ret;exact ⟨ret_bool HE.out.symm,H3.out.2.1.1⟩
 ·rw [Bool.true_and] at HB;go_wp2_with fail;refine (HJ.out w3 [2,3] 2 _ H3.out.1.vb rfl rfl).mono ?_;rintro e w4 ⟨p2,v2,rfl,hq,hb⟩;have H4:=hr (⟨H3.out.1.step hb,H3.out.2.1.step hb,H3.out.2.2.step hb,hq⟩ : Vw w4 v b ao n cap X ∧ Ok w.heap.size w w4 ∧ Qs w4 v b v1 p1 w.heap.size [4] ∧ Qs w4 v b v2 p2 w3.heap.size [2,3])
  clear hq hb H3;go_wp2_with fail;refine (HU.out w4 H4.out.1 _ _ _ _ _ _ [4] [2,3] (by simp) (by simp) H4.out.2.2.1 H4.out.2.2.2).mono ?_;rintro e w5 ⟨rfl,hb⟩
  have H5:=hr (H4.out.2.1.step hb);clear hb H4 HU HD;generalize asF (fun x=>decide (jnP x ∈ [4])) (fun x=>decide (jnP x ∈ [2,3])) (X.drop (i + 1)) = q2 at *
  go_wp2_with fail;go_ret;exact ⟨ret_bool HB.out.symm,H5.out.1⟩
end Ru
end Go.Proofs.YtkhipgcgcbhjoaaGreat
