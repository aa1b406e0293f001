import Derived.Test.YtkhipgcgcbhjoaaGreatDt30
import Derived.Test.YtkhipgcgcbhjoaaGreatDt32
import Derived.Test.YtkhipgcgcbhjoaaGreatDt35
import Derived.Test.YtkhipgcgcbhjoaaGreatDt36
import Derived.Deep.RegionWith
import Derived.Test.YtkhipgcgcbhjoaaGreatDt29
import Derived.Lib.BufSteps
import Derived.Lib.BufferRead
import Derived.Test.YtkhipgcgcbhjoaaGreatDt1
import Derived.WalkKit
import Derived.BigCall
import Derived.BigQuiet
import Derived.Deep.LoopGhost
set_option maxRecDepth 100000
set_option maxHeartbeats 8000000
namespace Go.Proofs.YtkhipgcgcbhjoaaGreat
namespace La
open Go.RowKit Od Pr Ha Nf
structure Ck (w : World) (c b f j g p d u s : Nat) : Prop where
 blk : w.heap[c]? = some (.cells #[.pointer (some ⟨b,0,none⟩),.pointer (some ⟨f,0,none⟩),.pointer (some ⟨j,0,none⟩)] 68)
 bk : Bk w b
 fm : Fm w f b p d u s
 jd : De.Jd w j b g p d u s
theorem Ck.step {w w' : World} {c b f j g p d u s : Nat} (h : Ck w c b f j g p d u s) (hb : Below w.heap.size w w') : Ck w' c b f j g p d u s :=
 ⟨(hb.block c (Array.getElem?_eq_some_iff.1 h.blk).1).trans h.blk,h.bk.step hb,h.fm.step hb,h.jd.step hb⟩
theorem Ck.cells {w : World} {c b f j g p d u s : Nat} (h : Ck w c b f j g p d u s) : w.cell? ⟨c,0,none⟩ = some (.pointer (some ⟨b,0,none⟩)) ∧ w.cell? ⟨c,1,none⟩ = some (.pointer (some ⟨f,0,none⟩)) ∧ w.cell? ⟨c,2,none⟩ = some (.pointer (some ⟨j,0,none⟩)):=by
 unfold World.cell?
 rw [h.blk];exact ⟨rfl,rfl,rfl⟩
theorem lnew_any {w : World} {b p d u s : Nat} (hb : Bk w b) (hp : PW w p d u s allP 395) :
 Calls Tryz.prog 14 #[.pointer (some ⟨b,0,none⟩),.pointer (some ⟨p,0,none⟩)] w fun e w'=>∃ c f j g,e = .returned (.pointer (some ⟨c,0,none⟩)) ∧ Ck w' c b f j g p d u s ∧ Below w.heap.size w w':=by
 have HN:=hr (new_any' hb hp);have HJ:=hr (fun (W : World) (h : Below w.heap.size w W)=>De.jnew_any (hb.step h) (hp.step h))
 have HB:=hr hb
 clear hb hp;have HO:=hr (Ok.start w);go_enter Tryz.func14,Tryz.ntmps14
 go_wp2_with fail;refine HN.out.mono ?_;rintro e w1 ⟨f,rfl,hF,hb⟩;have HF:=hr hF
 replace HO:=hr (HO.out.step hb);clear hF hb HN;go_wp2_with fail;refine (HJ.out _ HO.out.1).mono ?_;rintro e w2 ⟨j,g,rfl,hJ,hb⟩;have HJd:=hr hJ
 replace HF:=hr (HF.out.step hb);replace HO:=hr (HO.out.step hb);clear hJ hb HJ;go_wp2_with fail;go_ret;refine ⟨_,f,j,g,rfl,⟨heap_alloc_new w2 _,(HB.out.step HO.out.1).step (Ok.start w2).alloc.1,HF.out.step (Ok.start w2).alloc.1,HJd.out.step (Ok.start w2).alloc.1⟩,HO.out.alloc.1⟩
def mkR (r : Int) : Bool:=De.knP r == 5 || De.knP r == 6
theorem mark_any {w : World} {c b f j g p d u s : Nat} (hC : Ck w c b f j g p d u s) (r : Int) :
 Calls Tryz.prog 51 #[.pointer (some ⟨c,0,none⟩),.int .i32 r] w fun e w'=>e = .returned (.bool (mkR r)) ∧ Below w.heap.size w w':=by
 have HK:=hr (De.knd_any hC.bk r);obtain ⟨c0,c1,c2⟩:=hC.cells
 have HM : Hid (mkR r = (De.knP r == 5 || De.knP r == 6)):=rfl
 clear hC;generalize De.knP r = k at *;by_cases h5 : k = 5
 ·subst h5;have HE : Hid (mkR r = true):=HM.out
  clear HM;go_enter Tryz.func51,Tryz.ntmps51
  go_wp2_with fail;refine HK.out.mono ?_;rintro e w1 ⟨rfl,hb⟩;go_wp2_with fail;go_ret;exact ⟨ret_bool HE.out.symm,hb⟩
 ·have q : (k == 5) = false:=beq_eq_false_iff_ne.2 h5
  have HE : Hid (mkR r = (k == 6)):=by show _ = _; rw [HM.out,q]; rfl
  clear HM h5;go_enter Tryz.func51,Tryz.ntmps51
  go_wp2_with fail;refine HK.out.mono ?_;rintro e w1 ⟨rfl,hb⟩;go_wp2_with fail;go_ret;exact ⟨ret_bool HE.out.symm,hb⟩
def faB (b1 b2 b3 b4 b5 b6 b7 b8 : Bool) : Int:=if b1 = false then 2 else if b2 = true then 3 else if b3 = true then 4 else if b4 = true then 5 else if b5 = true then 6 else if b6 = true then 7 else if b7 = true then 8 else if b8 = true then 0 else 9
def faP : List Int -> Bool -> Int
 | [],_=>1
 | x :: xs,q=>faB (decide (nfcP clsP (x :: xs) = x :: xs)) (hyB (x :: xs)) (edB (x :: xs)) (mkR x) (decide (0 <= De.frP 0 (x :: xs))) (decide (0 <= Ru.frM (x :: xs) (x :: xs).length 0)) (q && !(Bi.brP (x :: xs) == 0)) ((x :: xs).any geB)
theorem fa_cons (x : Int) (xs : List Int) (q : Bool) : faP (x :: xs) q = faB (decide (nfcP clsP (x :: xs) = x :: xs)) (hyB (x :: xs)) (edB (x :: xs)) (mkR x) (decide (0 <= De.frP 0 (x :: xs))) (decide (0 <= Ru.frM (x :: xs) (x :: xs).length 0)) (q && !(Bi.brP (x :: xs) == 0)) ((x :: xs).any geB):=rfl
theorem ask_ge : Ru.Ask 57 #[] #[] geB (fun _=>True) :=
 ⟨enters_of Tryz.func57 (by kernel_rfl) rfl,fun W x _=>(beyond_any x W).mono (fun e w' h=>⟨h.1,by rw [h.2]; exact Below.refl _ _⟩),fun _ _ _ _=>trivial⟩
structure Qs (w : World) (c b f j : Nat) (v : Value) (X : List Int) (x : Int) (b1 b2 b3 b4 b5 b6 : Bool) (k7 : Int) (b8 : Bool) : Prop where
 cells : ∀ W,Below w.heap.size w W -> W.cell? ⟨c,0,none⟩ = some (.pointer (some ⟨b,0,none⟩)) ∧ W.cell? ⟨c,1,none⟩ = some (.pointer (some ⟨f,0,none⟩)) ∧ W.cell? ⟨c,2,none⟩ = some (.pointer (some ⟨j,0,none⟩))
 nf : ∀ W,Below w.heap.size w W -> Calls Tryz.prog 48 #[.pointer (some ⟨f,0,none⟩),v] W fun e w'=>∃ v',e = .returned v' ∧ Sl .i32 w' v' X ∧ Below W.heap.size W w'
 eq : ∀ W v',Below w.heap.size w W -> Sl .i32 W v' X -> Calls Tryz.prog 47 #[v',v] W fun e w'=>e = .returned (.bool b1) ∧ Below W.heap.size W w'
 hy : ∀ W,Below w.heap.size w W -> Calls Tryz.prog 49 #[v] W fun e w'=>e = .returned (.bool b2) ∧ Below W.heap.size W w'
 ed : ∀ W,Below w.heap.size w W -> Calls Tryz.prog 50 #[v] W fun e w'=>e = .returned (.bool b3) ∧ Below W.heap.size W w'
 mark : ∀ W,Below w.heap.size w W -> Calls Tryz.prog 51 #[.pointer (some ⟨c,0,none⟩),.int .i32 x] W fun e w'=>e = .returned (.bool b4) ∧ Below W.heap.size W w'
 st : ∀ W,Below w.heap.size w W -> Calls Tryz.prog 53 #[.pointer (some ⟨j,0,none⟩),v] W fun e w'=>(∃ z : Int,e = .returned (.tuple #[.int .i64 z,.bool b5])) ∧ Below W.heap.size W w'
 ru : ∀ W,Below w.heap.size w W -> Calls Tryz.prog 54 #[.pointer (some ⟨b,0,none⟩),v] W fun e w'=>(∃ z : Int,e = .returned (.tuple #[.int .i64 z,.bool b6])) ∧ Below W.heap.size W w'
 bi : ∀ W,Below w.heap.size w W -> Calls Tryz.prog 55 #[.pointer (some ⟨b,0,none⟩),v] W fun e w'=>e = .returned (.int .i64 k7) ∧ Below W.heap.size W w'
 ge : ∀ W,Below w.heap.size w W -> Calls Tryz.prog 56 #[v,.func (.func 57) #[] #[]] W fun e w'=>e = .returned (.bool b8) ∧ Below W.heap.size W w'
theorem qs_of {w : World} {c b f j g p d u s : Nat} (hC : Ck w c b f j g p d u s) {ao : Option Addr} {n cap : Nat} {x : Int} {xs : List Int} (hlen : (x :: xs).length = n) (hP : SlP .i32 w ao cap (x :: xs)) (hI : ∀ y ∈ x :: xs,I32 y) (hn : n <= 10000) :
 Qs w c b f j (.slice ao n cap) (nfcP clsP (x :: xs)) x (decide (nfcP clsP (x :: xs) = x :: xs)) (hyB (x :: xs)) (edB (x :: xs)) (mkR x) (decide (0 <= De.frP 0 (x :: xs))) (decide (0 <= Ru.frM (x :: xs) (x :: xs).length 0)) (Bi.brP (x :: xs)) ((x :: xs).any geB):=by
 have hn0 : 0 < n:=by rw [<- hlen]; simp
 have hSl : ∀ W,Below w.heap.size w W -> Sl .i32 W (.slice ao n cap) (x :: xs):=fun W h=>⟨_,_,by rw [hlen],hP.step h⟩
 exact ⟨fun W h=>(hC.step h).cells,fun W h=>nfc_any (hC.fm.step h) (hSl W h) hI (by omega),
  fun W v' h h'=>eq_any v' _ _ _ W h' (hSl W h) (by have:=(nfc_I32 _ hI).2; omega),
  fun W h=>hyph_any hlen (hP.step h) (by omega),fun W h=>edge_any hlen (hP.step h) (by omega) hn0,fun W h=>mark_any (hC.step h) x,
  fun W h=>(De.first_any (hC.jd.step h) (hSl W h) hI (by omega)).mono (fun e w' h=>⟨⟨_,h.1⟩,h.2⟩),
  fun W h=>(Ru.first_any (hC.bk.step h) hlen (hP.step h) (by omega)).mono (fun e w' h=>⟨⟨_,h.1⟩,h.2⟩),
  fun W h=>Bi.broken_any (hC.bk.step h) hlen (hP.step h) (by omega),
  fun W h=>Ru.contf_any W ao n cap ask_ge _ hlen (hP.step h) trivial (by omega)⟩
theorem fault_one {w : World} {c b f j : Nat} {v : Value} {X : List Int} {x : Int} {b1 b2 b3 b4 b5 b6 : Bool} {k7 : Int} {b8 : Bool} (hQ : Qs w c b f j v X x b1 b2 b3 b4 b5 b6 k7 b8) (gb off n cap : Nat) (hv : v = .slice (some ⟨gb,off,none⟩) n cap) (hgb : gb < w.heap.size) (hx : w.cell? ⟨gb,off,none⟩ = some (.int .i32 x)) (hn0 : 0 < n) (hn : n <= 10000) (q : Bool) :
 Calls Tryz.prog 17 #[.pointer (some ⟨c,0,none⟩),v,.bool q] w fun e w'=>e = .returned (.int .i64 (faB b1 b2 b3 b4 b5 b6 (q && !(k7 == 0)) b8)) ∧ Below w.heap.size w w':=by
 subst hv;have HQ:=hr hQ
 have HGc : Hid (∀ W,Below w.heap.size w W -> W.cell? ⟨gb,off,none⟩ = some (.int .i32 x)):=fun W hW=>(hW.cell (p:=⟨gb,off,none⟩) hgb).trans hx
 have HO:=hr (Ok.start w);obtain ⟨c0,c1,c2⟩:=hQ.cells w (Below.refl _ _)
 have z0 : ((n : Int) == 0) = false:=beq_eq_false_iff_ne.2 (by omega)
 have z1 : (0 : Int) < n:=by omega
 clear hQ hx hgb;go_enter Tryz.func17,Tryz.ntmps17
 go_wp2_with fail;refine (HQ.out.nf _ HO.out.1).mono ?_;rintro e w1 ⟨v1,rfl,h1,hb⟩;have S1:=hr h1
 replace HO:=hr (HO.out.step hb);clear h1 hb c0 c1 c2;go_wp2_with fail;refine (HQ.out.eq _ _ HO.out.1 S1.out).mono ?_;rintro e w2 ⟨rfl,hb⟩;replace HO:=hr (HO.out.step hb)
 clear hb S1;cases b1
 ·go_wp2_with fail;go_ret;exact ⟨rfl,HO.out.1⟩
 go_wp2_with fail;refine (HQ.out.hy _ HO.out.1).mono ?_;rintro e w3 ⟨rfl,hb⟩;replace HO:=hr (HO.out.step hb);clear hb;cases b2
 case true =>
  go_wp2_with fail;go_ret;exact ⟨rfl,HO.out.1⟩
 go_wp2_with fail;refine (HQ.out.ed _ HO.out.1).mono ?_;rintro e w4 ⟨rfl,hb⟩;replace HO:=hr (HO.out.step hb);clear hb;cases b3
 case true =>
  go_wp2_with fail;go_ret;exact ⟨rfl,HO.out.1⟩
 have g4:=HGc.out _ HO.out.1
 go_wp2_with fail;refine (HQ.out.mark _ HO.out.1).mono ?_;rintro e w5 ⟨rfl,hb⟩;replace HO:=hr (HO.out.step hb);clear hb g4;cases b4
 case true =>
  go_wp2_with fail;go_ret;exact ⟨rfl,HO.out.1⟩
 obtain ⟨c0,c1,c2⟩:=HQ.out.cells _ HO.out.1
 go_wp2_with fail;refine (HQ.out.st _ HO.out.1).mono ?_;rintro e w6 ⟨⟨z,rfl⟩,hb⟩;replace HO:=hr (HO.out.step hb);clear hb c0 c1 c2;go_wp2_with fail;refine (some_any _ _ _).mono ?_
 rintro e w6' ⟨rfl,rfl⟩;cases b5
 case true =>
  go_wp2_with fail;go_ret;exact ⟨rfl,HO.out.1⟩
 obtain ⟨c0,c1,c2⟩:=HQ.out.cells _ HO.out.1
 go_wp2_with fail;refine (HQ.out.ru _ HO.out.1).mono ?_;rintro e w7 ⟨⟨z',rfl⟩,hb⟩;replace HO:=hr (HO.out.step hb);clear hb c0 c1 c2;go_wp2_with fail;refine (some_any _ _ _).mono ?_
 rintro e w7' ⟨rfl,rfl⟩;cases b6
 case true =>
  go_wp2_with fail;go_ret;exact ⟨rfl,HO.out.1⟩
 obtain ⟨c0,c1,c2⟩:=HQ.out.cells _ HO.out.1
 cases q
 ·go_wp2_with fail;refine (HQ.out.ge _ HO.out.1).mono ?_;rintro e w8 ⟨rfl,hb⟩;replace HO:=hr (HO.out.step hb);clear hb;cases b8
  ·go_wp2_with fail;go_ret;exact ⟨rfl,HO.out.1⟩
  ·go_wp2_with fail;go_ret;exact ⟨rfl,HO.out.1⟩
 ·go_wp2_with fail;refine (HQ.out.bi _ HO.out.1).mono ?_;rintro e w8 ⟨rfl,hb⟩;replace HO:=hr (HO.out.step hb);clear hb c0 c1 c2;by_cases hk : k7 = 0
  ·subst hk;go_wp2_with fail;refine (HQ.out.ge _ HO.out.1).mono ?_;rintro e w9 ⟨rfl,hb⟩;replace HO:=hr (HO.out.step hb);clear hb;cases b8
   ·go_wp2_with fail;go_ret;exact ⟨rfl,HO.out.1⟩
   ·go_wp2_with fail;go_ret;exact ⟨rfl,HO.out.1⟩
  ·have q1 : (k7 != 0) = true:=by simpa using hk
   have HE : Hid ((true && !(k7 == 0)) = true):=by show _ = _; simpa using hk
   clear hk;go_wp2_with fail;go_ret;refine ⟨?_,HO.out.1⟩
   rw [HE.out]; rfl
theorem fault_any {w : World} {c b f j g p d u s : Nat} (hC : Ck w c b f j g p d u s) {v : Value} {X : List Int} (hS : Sl .i32 w v X) (hI : ∀ x ∈ X,I32 x) (hn : X.length <= 10000) (q : Bool) :
 Calls Tryz.prog 17 #[.pointer (some ⟨c,0,none⟩),v,.bool q] w fun e w'=>e = .returned (.int .i64 (faP X q)) ∧ Below w.heap.size w w':=by
 obtain ⟨ao,cap,rfl,hP⟩:=hS
 cases X with
 | nil =>
  have HE : Hid (faP [] q = 1):=rfl
  rw [List.length_nil];clear hP hC hI hn;go_enter Tryz.func17,Tryz.ntmps17
  go_wp2_with fail;go_ret;exact ⟨ret_int HE.out.symm,Below.refl _ _⟩
 | cons x xs =>
  rw [fa_cons];obtain ⟨gb,off,rfl,hgb,gc⟩:=hP.at_ 0 (by simp)
  exact fault_one (qs_of hC rfl hP hI hn) gb off _ cap rfl hgb gc (by simp) hn q
end La
end Go.Proofs.YtkhipgcgcbhjoaaGreat
namespace Go.Proofs.YtkhipgcgcbhjoaaGreat.Oc
open Go.RowKit
theorem Tryz.info_u8 : (Tryz.prog.info? 5).map (fun i=>(i.zero,i.size,i.bytes)) = some (some (.int .u8 0),1,1):=by kernel_rfl
theorem same_any (a b : ByteArray) (w : World) (ha : a.size <= maxLen) (hb : b.size <= maxLen) :
 Calls Tryz.prog 66 #[.string a,.string b] w fun e w'=>e = .returned (.bool (eqS (lowS a) (lowS b))) ∧ Below w.heap.size w w':=by
 by_cases h : ((a.size : Int) == (b.size : Int)) = true
 ·go_enter Tryz.func66,Tryz.ntmps66
  go_wp2_with fail;refine (lower_any _ _ ha).mono ?_;rintro e w1 ⟨rfl,hb1⟩;go_wp2_with fail;refine (lower_any _ _ hb).mono ?_;rintro e w2 ⟨rfl,hb2⟩;go_wp2_with fail
  go_ret;exact ⟨rfl,hb1.trans (hb2.mono hb1.size)⟩
 ·have h' : ((a.size : Int) == (b.size : Int)) = false:=by simpa using h
  have H : Hid (eqS (lowS a) (lowS b) = false):=by
   show (_ == _) = _
   rw [beq_eq_false_iff_ne];intro e
   have e2 : (lowS a).toList.length = (lowS b).toList.length:=by rw [e]
   have s1 : ∀ s : ByteArray,(lowS s).toList.length = s.size:=fun s=>by rw [ByteArray.toList_eq]; simp [lowS]
   rw [s1,s1] at e2;simp [e2] at h
  clear h;go_enter Tryz.func66,Tryz.ntmps66
  go_wp2_with fail;go_ret;exact ⟨ret_bool H.out.symm,Below.refl _ _⟩
theorem low_size (s : ByteArray) : (lowS s).size = s.size:=by show (s.data.toList.map lowU).toArray.size = s.data.size; simp
end Go.Proofs.YtkhipgcgcbhjoaaGreat.Oc
namespace Go.Proofs.YtkhipgcgcbhjoaaGreat
namespace Pu
open Go.RowKit
theorem hid {p : Prop} (h : p) : Hid p:=h
def dgP (v : Int) : Int:=if v < 26 then 97 + v else 22 + v
theorem digit_yes (v : Int) (w : World) (h0 : 0 <= v) (h1 : v < 36) :
 Calls Tryz.prog 287 #[.int .i64 v] w fun e w'=>e = .returned (.tuple #[.int .u8 (dgP v),.bool true]) ∧ w' = w:=by
 by_cases h : v < 26
 ·have HE : Hid (dgP v = 97 + v):=if_pos h
  have q1 : IntKind.u8.wrap v = v:=by rw [IntKind.wrap_u8]; omega
  have q2 : IntKind.u8.wrap (97 + v) = 97 + v:=by rw [IntKind.wrap_u8]; omega
  go_enter Tryz.func287,Tryz.ntmps287
  go_wp2_with fail;go_ret2;exact ⟨by rw [HE.out]; rfl,rfl⟩
 ·have HE : Hid (dgP v = 22 + v):=if_neg h
  have q0 : 26 <= v:=by omega
  have q1 : IntKind.u8.wrap (v - 26) = v - 26:=by rw [IntKind.wrap_u8]; omega
  have q2 : IntKind.u8.wrap (48 + (v - 26)) = 22 + v:=by rw [IntKind.wrap_u8]; omega
  go_enter Tryz.func287,Tryz.ntmps287
  go_wp2_with fail;go_ret2;exact ⟨by rw [HE.out]; rfl,rfl⟩
def vlP (b : Int) : Int:=if 97 <= b ∧ b <= 122 then b - 97 else if 65 <= b ∧ b <= 90 then b - 65 else if 48 <= b ∧ b <= 57 then b - 22 else -1
def vlV (b : Int) : Int:=if vlP b < 0 then 0 else vlP b
def vlB (b : Int) : Bool:=decide (0 <= vlP b)
theorem ret_vl {a b : Int} {p : Bool} (h1 : a = vlV b) (h2 : p = vlB b) : Ending.returned (.tuple #[.int .i64 a,.bool p]) = .returned (.tuple #[.int .i64 (vlV b),.bool (vlB b)]):=by rw [h1,h2]
theorem value_any (b : Int) (w : World) (h0 : 0 <= b) (h1 : b < 256) :
 Calls Tryz.prog 259 #[.int .u8 b] w fun e w'=>e = .returned (.tuple #[.int .i64 (vlV b),.bool (vlB b)]) ∧ w' = w:=by
 by_cases a1 : 97 <= b ∧ b <= 122
 ·have HE : Hid (vlP b = b - 97):=if_pos a1
  obtain ⟨a1,a2⟩:=a1
  have q1 : IntKind.u8.wrap (b - 97) = b - 97:=by rw [IntKind.wrap_u8]; omega
  have q2 : IntKind.i64.wrap (b - 97) = b - 97:=by rw [IntKind.wrap_i64]; omega
  go_enter Tryz.func259,Tryz.ntmps259
  go_wp2_with fail;go_ret2;exact ⟨ret_vl (by unfold vlV; rw [HE.out,if_neg (by omega)]) (by unfold vlB; rw [HE.out,decide_eq_true (by omega)]),rfl⟩
 by_cases a2 : 65 <= b ∧ b <= 90
 ·have HE : Hid (vlP b = b - 65):=by show _ = _; unfold vlP; rw [if_neg a1,if_pos a2]
  have q0 : ¬ 97 <= b:=by omega
  obtain ⟨a2,a3⟩:=a2
  have q1 : IntKind.u8.wrap (b - 65) = b - 65:=by rw [IntKind.wrap_u8]; omega
  have q2 : IntKind.i64.wrap (b - 65) = b - 65:=by rw [IntKind.wrap_i64]; omega
  clear a1;go_enter Tryz.func259,Tryz.ntmps259
  go_wp2_with fail;go_ret2;exact ⟨ret_vl (by unfold vlV; rw [HE.out,if_neg (by omega)]) (by unfold vlB; rw [HE.out,decide_eq_true (by omega)]),rfl⟩
 by_cases a3 : 48 <= b ∧ b <= 57
 ·have HE : Hid (vlP b = b - 22):=by show _ = _; unfold vlP; rw [if_neg a1,if_neg a2,if_pos a3]
  have q0 : ¬ 97 <= b:=by omega
  have q3 : ¬ 65 <= b:=by omega
  obtain ⟨a3,a4⟩:=a3
  have q1 : IntKind.u8.wrap (b - 48) = b - 48:=by rw [IntKind.wrap_u8]; omega
  have q2 : IntKind.i64.wrap (b - 48) = b - 48:=by rw [IntKind.wrap_i64]; omega
  clear a1 a2;go_enter Tryz.func259,Tryz.ntmps259
  go_wp2_with fail;go_ret2;exact ⟨ret_vl (by unfold vlV; rw [HE.out,if_neg (by omega)]; omega) (by unfold vlB; rw [HE.out,decide_eq_true (by omega)]),rfl⟩
 ·have HE : Hid (vlP b = -1):=by show _ = _; unfold vlP; rw [if_neg a1,if_neg a2,if_neg a3]
  have HR : Hid (vlV b = 0 ∧ vlB b = false):=⟨by unfold vlV; rw [HE.out]; rfl,by unfold vlB; rw [HE.out]; rfl⟩
  have c1 : (97 <= b ∧ ¬ b <= 122) ∨ ¬ 97 <= b:=by omega
  have c2 : (65 <= b ∧ ¬ b <= 90) ∨ ¬ 65 <= b:=by omega
  have c3 : (48 <= b ∧ ¬ b <= 57) ∨ ¬ 48 <= b:=by omega
  clear a1 a2 a3;rcases c1 with ⟨q1,q2⟩ | q1 <;> rcases c2 with ⟨q3,q4⟩ | q3 <;> rcases c3 with ⟨q5,q6⟩ | q5
  all_goals first
   | (exfalso; omega)
   | (
    go_enter Tryz.func259,Tryz.ntmps259
    go_wp2_with fail;go_ret2;exact ⟨by rw [HR.out.1,HR.out.2]; rfl,rfl⟩)
def thP (k b : Int) : Int:=if k <= b then 1 else if 26 <= k - b then 26 else k - b
theorem thr_any (k b : Int) (w : World) (hk : -1099511627776 <= k ∧ k <= 1099511627776) (hb : -1099511627776 <= b ∧ b <= 1099511627776) :
 Calls Tryz.prog 256 #[.int .i64 k,.int .i64 b] w fun e w'=>e = .returned (.int .i64 (thP k b)) ∧ w' = w:=by
 by_cases h : k <= b
 ·have HE : Hid (thP k b = 1):=if_pos h
  clear hk hb;go_enter Tryz.func256,Tryz.ntmps256
  go_wp2_with fail;go_ret;exact ⟨ret_int HE.out.symm,rfl⟩
 ·have q1 : IntKind.u64.wrap (IntKind.u64.wrap k - IntKind.u64.wrap b) = k - b:=by simp only [IntKind.wrap_u64]; omega
  by_cases h2 : 26 < k - b
  ·have HE : Hid (thP k b = 26):=by show _ = _; unfold thP; rw [if_neg h,if_pos (by omega)]
   go_enter Tryz.func256,Tryz.ntmps256
   go_wp2_with fail;go_ret;exact ⟨ret_int HE.out.symm,rfl⟩
  ·have HE : Hid (thP k b = k - b):=by show _ = _; unfold thP; rw [if_neg h]; split <;> omega
   have h3 : k - b <= 26:=by omega
   go_enter Tryz.func256,Tryz.ntmps256
   go_wp2_with fail;go_ret;exact ⟨ret_int HE.out.symm,rfl⟩
def adF : Nat -> Nat -> Nat -> Nat
 | 0,d,k=>k + 36 * d / (d + 38)
 | n + 1,d,k=>if 455 < d then adF n (d / 35) (k + 36) else k + 36 * d / (d + 38)
def adN (d k : Nat) : Nat:=adF d d k
theorem adF_eq : ∀ (n m d k : Nat),d <= n -> d <= m -> adF n d k = adF m d k
 | 0,0,_,_,_,_=>rfl
 | 0,m + 1,d,k,h,_=>by
  simp only [adF]
  rw [if_neg (by omega)]
 | n + 1,0,d,k,_,h=>by
  simp only [adF]
  rw [if_neg (by omega)]
 | n + 1,m + 1,d,k,h1,h2=>by
  simp only [adF]
  split
  ·exact adF_eq n m _ _ (by omega) (by omega)
  ·rfl
theorem adN_eq (d k : Nat) : adN d k = if 455 < d then adN (d / 35) (k + 36) else k + 36 * d / (d + 38):=by
 unfold adN;cases d with
 | zero=>rfl
 | succ d =>
  rw [show adF (d + 1) (d + 1) k = if 455 < d + 1 then adF d ((d + 1) / 35) (k + 36) else k + 36 * (d + 1) / (d + 1 + 38) from rfl]
  split
  ·exact adF_eq _ _ _ _ (by omega) (Nat.le_refl _)
  ·rfl
def adP (delta count : Nat) (first : Bool) : Nat :=
 let d:=if first = true then delta / 700 else delta / 2
 adN (d + d / count) 0
theorem adN_le : ∀ (n d k : Nat),d <= n -> adN d k <= k + d + 36
 | 0,d,k,h=>by
  rw [adN_eq,if_neg (by omega)];have : d = 0:=by omega
  subst this; simp
 | n + 1,d,k,h=>by
  rw [adN_eq];split
  ·have:=adN_le n (d / 35) (k + 36) (by omega)
   omega
  ·have : 36 * d / (d + 38) <= 36:=by
    apply Nat.div_le_of_le_mul
    omega
   omega
theorem adapt_t (delta count : Nat) (w : World) (h1 : delta <= 4294967296) (h2 : 1 <= count) (h3 : count <= 4294967296) :
 Calls Tryz.prog 200 #[.int .i64 delta,.int .i64 count,.bool true] w fun e w'=>e = .returned (.int .i64 (adP delta count true : Nat)) ∧ w' = w:=by
 obtain ⟨d1,hd1⟩ : ∃ d1 : Nat,d1 = delta / 700 + delta / 700 / count:=⟨_,rfl⟩
 have HT : Hid (adP delta count true = adN d1 0):=by show _ = _; rw [hd1]; rfl
 have m2 : delta / 700 / count <= delta / 700:=Nat.div_le_self _ _
 have m3 : d1 <= 8589934592:=by omega
 have e1 : (delta : Int) / 700 + (delta : Int) / 700 / (count : Int) = (d1 : Int):=by rw [hd1,Int.natCast_add,Int.natCast_ediv,Int.natCast_ediv]; rfl
 have hw : wrap64 ((delta : Int) / 700 + (delta : Int) / 700 / (count : Int)) = (d1 : Int):=by rw [e1]; unfold wrap64; omega
 clear e1 hd1 m2;go_enter Tryz.func200,Tryz.ntmps200
 go_wp2_with fail;go_loop [0,7] (fun d k=>∃ dn kn : Nat,d = .int .i64 dn ∧ k = .int .i64 kn ∧ dn <= 8589934592 ∧ kn + dn <= 8589934592 + 36 ∧ Hid (adP delta count true = adN dn kn)) (fun d _=>(intOf d).toNat)
 case atStart=>exact ⟨d1,0,by rw [hw],rfl,m3,by omega,HT.out⟩
 case round =>
  obtain ⟨dn,kn,rfl,rfl,b1,b2,H⟩:=hrel
  clear hw HT m3;by_cases hd : 455 < dn
  ·have HN : Hid (adP delta count true = adN (dn / 35) (kn + 36)):=by show _ = _; rw [H.out,adN_eq,if_pos hd]
   have c1 : (455 : Int) < (dn : Int):=by omega
   have c2 : kn + 36 + dn / 35 <= 8589934592 + 36:=by omega
   go_wp2_with fail;go_round
   case rel=>exact ⟨dn / 35,kn + 36,by first | rfl | (congr 1; omega),by go_num,by omega,c2,HN.out⟩
   case measure=>simp [intOf]; omega
  ·have HN : Hid (adP delta count true = kn + 36 * dn / (dn + 38)):=by show _ = _; rw [H.out,adN_eq,if_neg hd]
   have c1 : ¬ (455 : Int) < (dn : Int):=by omega
   have c2 : ¬ ((dn : Int) + 38 = 0):=by omega
   obtain ⟨q,hq⟩ : ∃ q : Nat,36 * dn / (dn + 38) = q:=⟨_,rfl⟩
   have c3 : q <= 36:=by rw [<- hq]; exact Nat.div_le_of_le_mul (by omega)
   have e3 : 36 * (dn : Int) / ((dn : Int) + 38) = (q : Int):=by rw [<- hq,Int.natCast_ediv]; rfl
   rw [hq] at HN;clear hq;go_wp2_with fail;go_ret;exact ⟨ret_int (by rw [HN.out]; omega),rfl⟩
theorem adapt_f (delta count : Nat) (w : World) (h1 : delta <= 4294967296) (h2 : 1 <= count) (h3 : count <= 4294967296) :
 Calls Tryz.prog 200 #[.int .i64 delta,.int .i64 count,.bool false] w fun e w'=>e = .returned (.int .i64 (adP delta count false : Nat)) ∧ w' = w:=by
 obtain ⟨d1,hd1⟩ : ∃ d1 : Nat,d1 = delta / 2 + delta / 2 / count:=⟨_,rfl⟩
 have HT : Hid (adP delta count false = adN d1 0):=by show _ = _; rw [hd1]; rfl
 have m2 : delta / 2 / count <= delta / 2:=Nat.div_le_self _ _
 have m3 : d1 <= 8589934592:=by omega
 have e1 : (delta : Int) / 2 + (delta : Int) / 2 / (count : Int) = (d1 : Int):=by rw [hd1,Int.natCast_add,Int.natCast_ediv,Int.natCast_ediv]; rfl
 have hw : wrap64 ((delta : Int) / 2 + (delta : Int) / 2 / (count : Int)) = (d1 : Int):=by rw [e1]; unfold wrap64; omega
 clear e1 hd1 m2;go_enter Tryz.func200,Tryz.ntmps200
 go_wp2_with fail;go_loop [0,7] (fun d k=>∃ dn kn : Nat,d = .int .i64 dn ∧ k = .int .i64 kn ∧ dn <= 8589934592 ∧ kn + dn <= 8589934592 + 36 ∧ Hid (adP delta count false = adN dn kn)) (fun d _=>(intOf d).toNat)
 case atStart=>exact ⟨d1,0,by rw [hw],rfl,m3,by omega,HT.out⟩
 case round =>
  obtain ⟨dn,kn,rfl,rfl,b1,b2,H⟩:=hrel
  clear hw HT m3;by_cases hd : 455 < dn
  ·have HN : Hid (adP delta count false = adN (dn / 35) (kn + 36)):=by show _ = _; rw [H.out,adN_eq,if_pos hd]
   have c1 : (455 : Int) < (dn : Int):=by omega
   have c2 : kn + 36 + dn / 35 <= 8589934592 + 36:=by omega
   go_wp2_with fail;go_round
   case rel=>exact ⟨dn / 35,kn + 36,by first | rfl | (congr 1; omega),by go_num,by omega,c2,HN.out⟩
   case measure=>simp [intOf]; omega
  ·have HN : Hid (adP delta count false = kn + 36 * dn / (dn + 38)):=by show _ = _; rw [H.out,adN_eq,if_neg hd]
   have c1 : ¬ (455 : Int) < (dn : Int):=by omega
   have c2 : ¬ ((dn : Int) + 38 = 0):=by omega
   obtain ⟨q,hq⟩ : ∃ q : Nat,36 * dn / (dn + 38) = q:=⟨_,rfl⟩
   have c3 : q <= 36:=by rw [<- hq]; exact Nat.div_le_of_le_mul (by omega)
   have e3 : 36 * (dn : Int) / ((dn : Int) + 38) = (q : Int):=by rw [<- hq,Int.natCast_ediv]; rfl
   rw [hq] at HN;clear hq;go_wp2_with fail;go_ret;exact ⟨ret_int (by rw [HN.out]; omega),rfl⟩
end Pu
end Go.Proofs.YtkhipgcgcbhjoaaGreat
