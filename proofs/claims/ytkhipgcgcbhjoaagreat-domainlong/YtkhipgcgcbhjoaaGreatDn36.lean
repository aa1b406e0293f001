import Derived.Test.YtkhipgcgcbhjoaaGreatDn29
import Derived.Test.YtkhipgcgcbhjoaaGreatDn31
import Derived.Test.YtkhipgcgcbhjoaaGreatDn34
import Derived.Test.YtkhipgcgcbhjoaaGreatDn35
import Derived.Deep.RegionWith
import Derived.Test.YtkhipgcgcbhjoaaGreatDn28
import Derived.Lib.BufSteps
import Derived.Lib.BufferRead
set_option maxRecDepth 100000
set_option maxHeartbeats 8000000
namespace Go.Proofs.YtkhipgcgcbhjoaaGreat
namespace La
open Go.RowKit Od Pr Ha Nf
structure Ck (w : World) (c b f j g p d u s : Nat) : Prop where
 blk : w.heap[c]? = some (.cells #[.pointer (some ⟨b,0,none⟩),.pointer (some ⟨f,0,none⟩),.pointer (some ⟨j,0,none⟩)] 68)
 bk : Bk w b
 fm : Fm w f b p d u s
 jd : De.Jd w j b g p d u s
theorem Ck.step {w w' : World} {c b f j g p d u s : Nat} (h : Ck w c b f j g p d u s) (hb : Below w.heap.size w w') : Ck w' c b f j g p d u s :=
 ⟨(hb.block c (Array.getElem?_eq_some_iff.1 h.blk).1).trans h.blk,h.bk.step hb,h.fm.step hb,h.jd.step hb⟩
theorem Ck.cells {w : World} {c b f j g p d u s : Nat} (h : Ck w c b f j g p d u s) : w.cell? ⟨c,0,none⟩ = some (.pointer (some ⟨b,0,none⟩)) ∧ w.cell? ⟨c,1,none⟩ = some (.pointer (some ⟨f,0,none⟩)) ∧ w.cell? ⟨c,2,none⟩ = some (.pointer (some ⟨j,0,none⟩)):=by
 unfold World.cell?
 rw [h.blk];exact ⟨rfl,rfl,rfl⟩
theorem lnew_any {w : World} {b p d u s : Nat} (hb : Bk w b) (hp : PW w p d u s allP 395) :
 Calls Tryz.prog 14 #[.pointer (some ⟨b,0,none⟩),.pointer (some ⟨p,0,none⟩)] w fun e w'=>∃ c f j g,e = .returned (.pointer (some ⟨c,0,none⟩)) ∧ Ck w' c b f j g p d u s ∧ Below w.heap.size w w':=by
 have HN:=hr (new_any' hb hp);have HJ:=hr (fun (W : World) (h : Below w.heap.size w W)=>De.jnew_any (hb.step h) (hp.step h))
 have HB:=hr hb
 clear hb hp;have HO:=hr (Ok.start w);go_enter Tryz.func14,Tryz.ntmps14
 go_wp2_with fail;refine HN.out.mono ?_;rintro e w1 ⟨f,rfl,hF,hb⟩;have HF:=hr hF
 replace HO:=hr (HO.out.step hb);clear hF hb HN;go_wp2_with fail;refine (HJ.out _ HO.out.1).mono ?_;rintro e w2 ⟨j,g,rfl,hJ,hb⟩;have HJd:=hr hJ
 replace HF:=hr (HF.out.step hb);replace HO:=hr (HO.out.step hb);clear hJ hb HJ;go_wp2_with fail;go_ret;refine ⟨_,f,j,g,rfl,⟨heap_alloc_new w2 _,(HB.out.step HO.out.1).step (Ok.start w2).alloc.1,HF.out.step (Ok.start w2).alloc.1,HJd.out.step (Ok.start w2).alloc.1⟩,HO.out.alloc.1⟩
def mkR (r : Int) : Bool:=De.knP r == 5 || De.knP r == 6
theorem mark_any {w : World} {c b f j g p d u s : Nat} (hC : Ck w c b f j g p d u s) (r : Int) :
 Calls Tryz.prog 51 #[.pointer (some ⟨c,0,none⟩),.int .i32 r] w fun e w'=>e = .returned (.bool (mkR r)) ∧ Below w.heap.size w w':=by
 have HK:=hr (De.knd_any hC.bk r);obtain ⟨c0,c1,c2⟩:=hC.cells
 have HM : Hid (mkR r = (De.knP r == 5 || De.knP r == 6)):=rfl
 clear hC;generalize De.knP r = k at *;by_cases h5 : k = 5
 ·subst h5;have HE : Hid (mkR r = true):=HM.out
  clear HM;go_enter Tryz.func51,Tryz.ntmps51
  go_wp2_with fail;refine HK.out.mono ?_;rintro e w1 ⟨rfl,hb⟩;go_wp2_with fail;go_ret;exact ⟨ret_bool HE.out.symm,hb⟩
 ·have q : (k == 5) = false:=beq_eq_false_iff_ne.2 h5
  have HE : Hid (mkR r = (k == 6)):=by show _ = _; rw [HM.out,q]; rfl
  clear HM h5;go_enter Tryz.func51,Tryz.ntmps51
  go_wp2_with fail;refine HK.out.mono ?_;rintro e w1 ⟨rfl,hb⟩;go_wp2_with fail;go_ret;exact ⟨ret_bool HE.out.symm,hb⟩
def faB (b1 b2 b3 b4 b5 b6 b7 b8 : Bool) : Int:=if b1 = false then 2 else if b2 = true then 3 else if b3 = true then 4 else if b4 = true then 5 else if b5 = true then 6 else if b6 = true then 7 else if b7 = true then 8 else if b8 = true then 0 else 9
def faP : List Int -> Bool -> Int
 | [],_=>1
 | x :: xs,q=>faB (decide (nfcP clsP (x :: xs) = x :: xs)) (hyB (x :: xs)) (edB (x :: xs)) (mkR x) (decide (0 <= De.frP 0 (x :: xs))) (decide (0 <= Ru.frM (x :: xs) (x :: xs).length 0)) (q && !(Bi.brP (x :: xs) == 0)) ((x :: xs).any geB)
theorem fa_cons (x : Int) (xs : List Int) (q : Bool) : faP (x :: xs) q = faB (decide (nfcP clsP (x :: xs) = x :: xs)) (hyB (x :: xs)) (edB (x :: xs)) (mkR x) (decide (0 <= De.frP 0 (x :: xs))) (decide (0 <= Ru.frM (x :: xs) (x :: xs).length 0)) (q && !(Bi.brP (x :: xs) == 0)) ((x :: xs).any geB):=rfl
theorem ask_ge : Ru.Ask 57 #[] #[] geB (fun _=>True) :=
 ⟨enters_of Tryz.func57 (by kernel_rfl) rfl,fun W x _=>(beyond_any x W).mono (fun e w' h=>⟨h.1,by rw [h.2]; exact Below.refl _ _⟩),fun _ _ _ _=>trivial⟩
structure Qs (w : World) (c b f j : Nat) (v : Value) (X : List Int) (x : Int) (b1 b2 b3 b4 b5 b6 : Bool) (k7 : Int) (b8 : Bool) : Prop where
 cells : ∀ W,Below w.heap.size w W -> W.cell? ⟨c,0,none⟩ = some (.pointer (some ⟨b,0,none⟩)) ∧ W.cell? ⟨c,1,none⟩ = some (.pointer (some ⟨f,0,none⟩)) ∧ W.cell? ⟨c,2,none⟩ = some (.pointer (some ⟨j,0,none⟩))
 nf : ∀ W,Below w.heap.size w W -> Calls Tryz.prog 48 #[.pointer (some ⟨f,0,none⟩),v] W fun e w'=>∃ v',e = .returned v' ∧ Sl .i32 w' v' X ∧ Below W.heap.size W w'
 eq : ∀ W v',Below w.heap.size w W -> Sl .i32 W v' X -> Calls Tryz.prog 47 #[v',v] W fun e w'=>e = .returned (.bool b1) ∧ Below W.heap.size W w'
 hy : ∀ W,Below w.heap.size w W -> Calls Tryz.prog 49 #[v] W fun e w'=>e = .returned (.bool b2) ∧ Below W.heap.size W w'
 ed : ∀ W,Below w.heap.size w W -> Calls Tryz.prog 50 #[v] W fun e w'=>e = .returned (.bool b3) ∧ Below W.heap.size W w'
 mark : ∀ W,Below w.heap.size w W -> Calls Tryz.prog 51 #[.pointer (some ⟨c,0,none⟩),.int .i32 x] W fun e w'=>e = .returned (.bool b4) ∧ Below W.heap.size W w'
 st : ∀ W,Below w.heap.size w W -> Calls Tryz.prog 53 #[.pointer (some ⟨j,0,none⟩),v] W fun e w'=>(∃ z : Int,e = .returned (.tuple #[.int .i64 z,.bool b5])) ∧ Below W.heap.size W w'
 ru : ∀ W,Below w.heap.size w W -> Calls Tryz.prog 54 #[.pointer (some ⟨b,0,none⟩),v] W fun e w'=>(∃ z : Int,e = .returned (.tuple #[.int .i64 z,.bool b6])) ∧ Below W.heap.size W w'
 bi : ∀ W,Below w.heap.size w W -> Calls Tryz.prog 55 #[.pointer (some ⟨b,0,none⟩),v] W fun e w'=>e = .returned (.int .i64 k7) ∧ Below W.heap.size W w'
 ge : ∀ W,Below w.heap.size w W -> Calls Tryz.prog 56 #[v,.func (.func 57) #[] #[]] W fun e w'=>e = .returned (.bool b8) ∧ Below W.heap.size W w'
theorem qs_of {w : World} {c b f j g p d u s : Nat} (hC : Ck w c b f j g p d u s) {ao : Option Addr} {n cap : Nat} {x : Int} {xs : List Int} (hlen : (x :: xs).length = n) (hP : SlP .i32 w ao cap (x :: xs)) (hI : ∀ y ∈ x :: xs,I32 y) (hn : n <= 10000) :
 Qs w c b f j (.slice ao n cap) (nfcP clsP (x :: xs)) x (decide (nfcP clsP (x :: xs) = x :: xs)) (hyB (x :: xs)) (edB (x :: xs)) (mkR x) (decide (0 <= De.frP 0 (x :: xs))) (decide (0 <= Ru.frM (x :: xs) (x :: xs).length 0)) (Bi.brP (x :: xs)) ((x :: xs).any geB):=by
 have hn0 : 0 < n:=by rw [<- hlen]; simp
 have hSl : ∀ W,Below w.heap.size w W -> Sl .i32 W (.slice ao n cap) (x :: xs):=fun W h=>⟨_,_,by rw [hlen],hP.step h⟩
 exact ⟨fun W h=>(hC.step h).cells,fun W h=>nfc_any (hC.fm.step h) (hSl W h) hI (by omega),
  fun W v' h h'=>eq_any v' _ _ _ W h' (hSl W h) (by have:=(nfc_I32 _ hI).2; omega),
  fun W h=>hyph_any hlen (hP.step h) (by omega),fun W h=>edge_any hlen (hP.step h) (by omega) hn0,fun W h=>mark_any (hC.step h) x,
  fun W h=>(De.first_any (hC.jd.step h) (hSl W h) hI (by omega)).mono (fun e w' h=>⟨⟨_,h.1⟩,h.2⟩),
  fun W h=>(Ru.first_any (hC.bk.step h) hlen (hP.step h) (by omega)).mono (fun e w' h=>⟨⟨_,h.1⟩,h.2⟩),
  fun W h=>Bi.broken_any (hC.bk.step h) hlen (hP.step h) (by omega),
  fun W h=>Ru.contf_any W ao n cap ask_ge _ hlen (hP.step h) trivial (by omega)⟩
theorem fault_one {w : World} {c b f j : Nat} {v : Value} {X : List Int} {x : Int} {b1 b2 b3 b4 b5 b6 : Bool} {k7 : Int} {b8 : Bool} (hQ : Qs w c b f j v X x b1 b2 b3 b4 b5 b6 k7 b8) (gb off n cap : Nat) (hv : v = .slice (some ⟨gb,off,none⟩) n cap) (hgb : gb < w.heap.size) (hx : w.cell? ⟨gb,off,none⟩ = some (.int .i32 x)) (hn0 : 0 < n) (hn : n <= 10000) (q : Bool) :
 Calls Tryz.prog 17 #[.pointer (some ⟨c,0,none⟩),v,.bool q] w fun e w'=>e = .returned (.int .i64 (faB b1 b2 b3 b4 b5 b6 (q && !(k7 == 0)) b8)) ∧ Below w.heap.size w w':=by
 subst hv;have HQ:=hr hQ
 have HGc : Hid (∀ W,Below w.heap.size w W -> W.cell? ⟨gb,off,none⟩ = some (.int .i32 x)):=fun W hW=>(hW.cell (p:=⟨gb,off,none⟩) hgb).trans hx
 have HO:=hr (Ok.start w);obtain ⟨c0,c1,c2⟩:=hQ.cells w (Below.refl _ _)
 have z0 : ((n : Int) == 0) = false:=beq_eq_false_iff_ne.2 (by omega)
 have z1 : (0 : Int) < n:=by omega
 clear hQ hx hgb;go_enter Tryz.func17,Tryz.ntmps17
 go_wp2_with fail;refine (HQ.out.nf _ HO.out.1).mono ?_;rintro e w1 ⟨v1,rfl,h1,hb⟩;have S1:=hr h1
 replace HO:=hr (HO.out.step hb);clear h1 hb c0 c1 c2;go_wp2_with fail;refine (HQ.out.eq _ _ HO.out.1 S1.out).mono ?_;rintro e w2 ⟨rfl,hb⟩;replace HO:=hr (HO.out.step hb)
 clear hb S1;cases b1
 ·go_wp2_with fail;go_ret;exact ⟨rfl,HO.out.1⟩
 go_wp2_with fail;refine (HQ.out.hy _ HO.out.1).mono ?_;rintro e w3 ⟨rfl,hb⟩;replace HO:=hr (HO.out.step hb);clear hb;cases b2
 case true =>
  go_wp2_with fail;go_ret;exact ⟨rfl,HO.out.1⟩
 go_wp2_with fail;refine (HQ.out.ed _ HO.out.1).mono ?_;rintro e w4 ⟨rfl,hb⟩;replace HO:=hr (HO.out.step hb);clear hb;cases b3
 case true =>
  go_wp2_with fail;go_ret;exact ⟨rfl,HO.out.1⟩
 have g4:=HGc.out _ HO.out.1
 go_wp2_with fail;refine (HQ.out.mark _ HO.out.1).mono ?_;rintro e w5 ⟨rfl,hb⟩;replace HO:=hr (HO.out.step hb);clear hb g4;cases b4
 case true =>
  go_wp2_with fail;go_ret;exact ⟨rfl,HO.out.1⟩
 obtain ⟨c0,c1,c2⟩:=HQ.out.cells _ HO.out.1
 go_wp2_with fail;refine (HQ.out.st _ HO.out.1).mono ?_;rintro e w6 ⟨⟨z,rfl⟩,hb⟩;replace HO:=hr (HO.out.step hb);clear hb c0 c1 c2;go_wp2_with fail;refine (some_any _ _ _).mono ?_
 rintro e w6' ⟨rfl,rfl⟩;cases b5
 case true =>
  go_wp2_with fail;go_ret;exact ⟨rfl,HO.out.1⟩
 obtain ⟨c0,c1,c2⟩:=HQ.out.cells _ HO.out.1
 go_wp2_with fail;refine (HQ.out.ru _ HO.out.1).mono ?_;rintro e w7 ⟨⟨z',rfl⟩,hb⟩;replace HO:=hr (HO.out.step hb);clear hb c0 c1 c2;go_wp2_with fail;refine (some_any _ _ _).mono ?_
 rintro e w7' ⟨rfl,rfl⟩;cases b6
 case true =>
  go_wp2_with fail;go_ret;exact ⟨rfl,HO.out.1⟩
 obtain ⟨c0,c1,c2⟩:=HQ.out.cells _ HO.out.1
 cases q
 ·go_wp2_with fail;refine (HQ.out.ge _ HO.out.1).mono ?_;rintro e w8 ⟨rfl,hb⟩;replace HO:=hr (HO.out.step hb);clear hb;cases b8
  ·go_wp2_with fail;go_ret;exact ⟨rfl,HO.out.1⟩
  ·go_wp2_with fail;go_ret;exact ⟨rfl,HO.out.1⟩
 ·go_wp2_with fail;refine (HQ.out.bi _ HO.out.1).mono ?_;rintro e w8 ⟨rfl,hb⟩;replace HO:=hr (HO.out.step hb);clear hb c0 c1 c2;by_cases hk : k7 = 0
  ·subst hk;go_wp2_with fail;refine (HQ.out.ge _ HO.out.1).mono ?_;rintro e w9 ⟨rfl,hb⟩;replace HO:=hr (HO.out.step hb);clear hb;cases b8
   ·go_wp2_with fail;go_ret;exact ⟨rfl,HO.out.1⟩
   ·go_wp2_with fail;go_ret;exact ⟨rfl,HO.out.1⟩
  ·have q1 : (k7 != 0) = true:=by simpa using hk
   have HE : Hid ((true && !(k7 == 0)) = true):=by show _ = _; simpa using hk
   clear hk;go_wp2_with fail;go_ret;refine ⟨?_,HO.out.1⟩
   rw [HE.out]; rfl
theorem fault_any {w : World} {c b f j g p d u s : Nat} (hC : Ck w c b f j g p d u s) {v : Value} {X : List Int} (hS : Sl .i32 w v X) (hI : ∀ x ∈ X,I32 x) (hn : X.length <= 10000) (q : Bool) :
 Calls Tryz.prog 17 #[.pointer (some ⟨c,0,none⟩),v,.bool q] w fun e w'=>e = .returned (.int .i64 (faP X q)) ∧ Below w.heap.size w w':=by
 obtain ⟨ao,cap,rfl,hP⟩:=hS
 cases X with
 | nil =>
  have HE : Hid (faP [] q = 1):=rfl
  rw [List.length_nil];clear hP hC hI hn;go_enter Tryz.func17,Tryz.ntmps17
  go_wp2_with fail;go_ret;exact ⟨ret_int HE.out.symm,Below.refl _ _⟩
 | cons x xs =>
  rw [fa_cons];obtain ⟨gb,off,rfl,hgb,gc⟩:=hP.at_ 0 (by simp)
  exact fault_one (qs_of hC rfl hP hI hn) gb off _ cap rfl hgb gc (by simp) hn q
end La
end Go.Proofs.YtkhipgcgcbhjoaaGreat
namespace Go.Proofs.YtkhipgcgcbhjoaaGreat.Oc
open Go.RowKit
theorem Tryz.info_u8 : (Tryz.prog.info? 5).map (fun i=>(i.zero,i.size,i.bytes)) = some (some (.int .u8 0),1,1):=by kernel_rfl
theorem same_any (a b : ByteArray) (w : World) (ha : a.size <= maxLen) (hb : b.size <= maxLen) :
 Calls Tryz.prog 66 #[.string a,.string b] w fun e w'=>e = .returned (.bool (eqS (lowS a) (lowS b))) ∧ Below w.heap.size w w':=by
 by_cases h : ((a.size : Int) == (b.size : Int)) = true
 ·go_enter Tryz.func66,Tryz.ntmps66
  go_wp2_with fail;refine (lower_any _ _ ha).mono ?_;rintro e w1 ⟨rfl,hb1⟩;go_wp2_with fail;refine (lower_any _ _ hb).mono ?_;rintro e w2 ⟨rfl,hb2⟩;go_wp2_with fail
  go_ret;exact ⟨rfl,hb1.trans (hb2.mono hb1.size)⟩
 ·have h' : ((a.size : Int) == (b.size : Int)) = false:=by simpa using h
  have H : Hid (eqS (lowS a) (lowS b) = false):=by
   show (_ == _) = _
   rw [beq_eq_false_iff_ne];intro e
   have e2 : (lowS a).toList.length = (lowS b).toList.length:=by rw [e]
   have s1 : ∀ s : ByteArray,(lowS s).toList.length = s.size:=fun s=>by rw [ByteArray.toList_eq]; simp [lowS]
   rw [s1,s1] at e2;simp [e2] at h
  clear h;go_enter Tryz.func66,Tryz.ntmps66
  go_wp2_with fail;go_ret;exact ⟨ret_bool H.out.symm,Below.refl _ _⟩
theorem low_size (s : ByteArray) : (lowS s).size = s.size:=by show (s.data.toList.map lowU).toArray.size = s.data.size; simp
end Go.Proofs.YtkhipgcgcbhjoaaGreat.Oc
