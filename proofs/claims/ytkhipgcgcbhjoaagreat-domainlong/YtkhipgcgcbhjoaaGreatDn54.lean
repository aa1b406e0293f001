import Derived.Test.YtkhipgcgcbhjoaaGreatDn50
import Derived.Deep.Slices
import Derived.ChangeSame
import Derived.OpenShut
set_option maxRecDepth 100000
set_option maxHeartbeats 2000000
namespace Go.Proofs.YtkhipgcgcbhjoaaGreat
namespace Bi
open Go.RowKit Od
end Bi
end Go.Proofs.YtkhipgcgcbhjoaaGreat
namespace Go.Proofs.YtkhipgcgcbhjoaaGreat
namespace Bi
open Go.RowKit Go.ChangeShapes Go.WideShapes Od
def Rn (X : List Int) : Prop:=∀ y ∈ X,-2147483648 <= y ∧ y <= 2147483647
structure Lab (w : World) (ao : Option Addr) (xs : List (Value × List Int)) : Prop where
 at_ : ∀ j (h : j < xs.length),∃ b off,ao = some ⟨b,off,none⟩ ∧ b < w.heap.size ∧ w.cell? ⟨b,off + j,none⟩ = some xs[j].1
 sl : ∀ z ∈ xs,Sl .i32 w z.1 z.2
 rn : ∀ z ∈ xs,Rn z.2
theorem Lab.step {w w' : World} {ao : Option Addr} {xs : List (Value × List Int)} (h : Lab w ao xs) (hb : Below w.heap.size w w') : Lab w' ao xs :=
 ⟨fun j hj=>by
  obtain ⟨b,off,e,hlt,hc⟩:=h.at_ j hj
  exact ⟨b,off,e,Nat.lt_of_lt_of_le hlt hb.size,(hb.cell (p:=⟨b,off + j,none⟩) hlt).trans hc⟩,fun z hz=>(h.sl z hz).step hb,h.rn⟩
def Fst (p : Nat -> Bool) (n : Nat) (z : Int) : Prop:=(z = -1 ∧ ∀ j,j < n -> p j = false) ∨ ∃ k : Nat,z = k ∧ k < n ∧ p k = true ∧ ∀ j,j < k -> p j = false
structure Asks (g : Nat) (cb : Array Value) (q : List Int -> Bool) (G : World -> Prop) : Prop where
 enter : ∀ args w,(callFunc g args).run Tryz.prog w = .ok (.enter g args) w
 call : ∀ W v X,G W -> Sl .i32 W v X -> X.length <= 1000000 -> Calls Tryz.prog g (#[v] ++ cb) W fun e w'=>e = .returned (.bool (q X)) ∧ Below W.heap.size W w'
 keep : ∀ W W',G W -> Below W.heap.size W W' -> G W'
theorem idxl_any {G : World -> Prop} {q : List Int -> Bool} {g : Nat} {cb : Array Value} (w : World) (ao : Option Addr) (n cap : Nat) (hC : Asks g cb q G) (xs : List (Value × List Int)) (hX : xs.length = n) (hS : Lab w ao xs) (hs : ∀ z ∈ xs,z.2.length <= 1000000) (hG : G w) (hn : n <= 1000000) :
 Calls Tryz.prog 266 #[.slice ao n cap,.func (.func g) #[] cb] w fun e w'=>∃ z : Int,e = .returned (.int .i64 z) ∧ Fst (fun j=>q (xs.getD j (.bool false,[])).2) n z ∧ Below w.heap.size w w':=by
 have HC:=hr hC
 have HX:=hr hX
 have HS:=hr hS
 have Hs:=hr hs
 have H0 : Hid (G w ∧ Ok w.heap.size w w):=⟨hG,Ok.start w⟩
 clear hC hX hS hG hs;have hen:=HC.out.enter
 go_enter Tryz.func266,Tryz.ntmps266
 go_wp2_with fail;go_loopg [8] n (fun gg vi wr=>∃ k : Nat,vi = .int .i64 k ∧ k <= n ∧ gg = n - k ∧ Hid ((∀ j,j < k -> q (xs.getD j (.bool false,[])).2 = false) ∧ G wr ∧ Ok w.heap.size w wr))
 case atStart=>exact ⟨0,rfl,Nat.zero_le _,rfl,fun j h=>by omega,H0.out⟩
 case round =>
  obtain ⟨k,rfl,hk,hg,H⟩:=hrel
  have HG:=hr hg
  clear hg H0;by_cases hlt : k < n
  ·have hlx : k < xs.length:=by have:=HX.out; omega
   obtain ⟨b,off,rfl,hb,c1⟩:=HS.out.at_ k hlx
   have d1:=(H.out.2.2.1.cell (p:=⟨b,off + k,none⟩) hb).trans c1
   have eg : xs.getD k (.bool false,[]) = xs[k]:=by rw [List.getD_eq_getElem?_getD,List.getElem?_eq_getElem hlx]; rfl
   have HV:=hr (HC.out.call wr xs[k].1 xs[k].2 H.out.2.1 ((HS.out.sl _ (List.getElem_mem hlx)).step H.out.2.2.1) (Hs.out _ (List.getElem_mem hlx)));have z1 : (k : Int) < (n : Int):=by omega
   have HQ : Hid (q xs[k].2 = q (xs.getD k (.bool false,[])).2):=by show _ = _; rw [eg]
   clear c1 eg;generalize xs[k].1 = v at *;rw [HQ.out] at HV;cases hp : q (xs.getD k (.bool false,[])).2
   ·have HN0 : Hid (∀ j,j < k + 1 -> q (xs.getD j (.bool false,[])).2 = false):=fun j h=>by
     by_cases e : j = k
     ·subst e; exact hp
     ·exact H.out.1 j (by omega)
    rw [hp] at HV;clear hp;go_wp2_with fail;refine HV.out.mono ?_;rintro e w' ⟨rfl,hb'⟩;have HN : Hid (G w' ∧ Ok w.heap.size w w'):=⟨HC.out.keep _ _ H.out.2.1 hb',H.out.2.2.step hb'⟩
    clear hb';go_wp2_with fail;go_roundg (n - (k + 1))
    case measure=>rw [HG.out]; omega
    case rel=>exact ⟨k + 1,by go_num,by omega,rfl,HN0.out,HN.out⟩
   ·have HE : Hid (Fst (fun j=>q (xs.getD j (.bool false,[])).2) n (k : Int)):=.inr ⟨k,rfl,hlt,hp,H.out.1⟩
    rw [hp] at HV;clear hp;go_wp2_with fail;refine HV.out.mono ?_;rintro e w' ⟨rfl,hb'⟩;have hok:=hr (H.out.2.2.step hb');clear hb';go_wp2_with fail;try rw [Exit.noGoto_ret]
    go_ret;exact ⟨_,rfl,HE.out,hok.out.1⟩
  ·have z1 : ¬ (k : Int) < (n : Int):=by omega
   have HE : Hid (Fst (fun j=>q (xs.getD j (.bool false,[])).2) n (-1)):=.inl ⟨rfl,fun j hj=>H.out.1 j (by omega)⟩
   go_wp2_with fail;go_ret;exact ⟨_,rfl,HE.out,H.out.2.2.1⟩
end Bi
end Go.Proofs.YtkhipgcgcbhjoaaGreat
namespace Go.Proofs.YtkhipgcgcbhjoaaGreat
namespace Bi
open Go.RowKit Od
def anyL (q : List Int -> Bool) (xs : List (Value × List Int)) : Bool:=xs.any (fun z=>q z.2)
theorem fst_any {q : List Int -> Bool} {xs : List (Value × List Int)} {n : Nat} {z : Int} (hX : xs.length = n) (h : Fst (fun j=>q (xs.getD j (.bool false,[])).2) n z) : decide (0 <= z) = anyL q xs:=by
 have hg : ∀ j (hj : j < xs.length),xs.getD j (.bool false,[]) = xs[j]:=fun j hj=>by rw [List.getD_eq_getElem?_getD,List.getElem?_eq_getElem hj]; rfl
 unfold anyL;rcases h with ⟨rfl,h⟩ | ⟨k,rfl,hk,h1,h2⟩
 ·rw [decide_eq_false (by omega)];symm
  rw [List.any_eq_false];intro y hy
  obtain ⟨j,hj,rfl⟩:=List.mem_iff_getElem.1 hy
  have:=h j (by omega)
  simp only [hg j hj] at this
  rw [this]; decide
 ·rw [decide_eq_true (by omega)];symm
  rw [List.any_eq_true];have hk' : k < xs.length:=by omega
  simp only [hg k hk'] at h1
  exact ⟨xs[k],List.getElem_mem hk',h1⟩
theorem contl_any {G : World -> Prop} {q : List Int -> Bool} {g : Nat} {cb : Array Value} (w : World) (ao : Option Addr) (n cap : Nat) (hC : Asks g cb q G) (xs : List (Value × List Int)) (hX : xs.length = n) (hS : Lab w ao xs) (hs : ∀ z ∈ xs,z.2.length <= 1000000) (hG : G w) (hn : n <= 1000000) :
 Calls Tryz.prog 210 #[.slice ao n cap,.func (.func g) #[] cb] w fun e w'=>e = .returned (.bool (anyL q xs)) ∧ Below w.heap.size w w':=by
 have HI:=hr (idxl_any w ao n cap hC xs hX hS hs hG hn);have HF:=hr (fun z h=>fst_any (q:=q) (xs:=xs) (z:=z) hX h)
 clear hC hX hS hG hn hs;go_enter Tryz.func210,Tryz.ntmps210
 go_wp2_with fail;refine HI.out.mono ?_;rintro e w1 ⟨z,rfl,h1,hb⟩;have HE:=hr (HF.out z h1);have HB:=hr hb
 clear h1 hb;go_wp2_with fail;go_ret;exact ⟨ret_bool HE.out,HB.out⟩
def Gb (b pb : Nat) (W : World) : Prop:=Bk W b ∧ Bx W pb (.pointer (some ⟨b,0,none⟩)) 29
theorem Gb.step {b pb : Nat} {W W' : World} (h : Gb b pb W) (hb : Below W.heap.size W W') : Gb b pb W':=⟨h.1.step hb,h.2.step hb⟩
theorem rtl1_any {b pb : Nat} (W : World) (v : Value) (X : List Int) (hG : Gb b pb W) (hS : Sl .i32 W v X) (hn : X.length <= 1000000) :
 Calls Tryz.prog 211 #[v,.pointer (some ⟨pb,0,none⟩)] W fun e w'=>e = .returned (.bool (rtP X)) ∧ Below W.heap.size W w':=by
 obtain ⟨ao,cap,rfl,hS⟩:=hS
 have HV:=hr (rtl_any hG.1 rfl hS hn);have c0:=hG.2.cell
 have HO:=hr (Ok.start W);clear hG hS hn;generalize rtP X = z at *;go_enter Tryz.func211,Tryz.ntmps211
 go_wp2_with fail;refine HV.out.mono ?_;rintro e w1 ⟨rfl,hb⟩;replace HO:=hr (HO.out.step hb);clear hb HV;go_wp2_with fail;go_ret;exact ⟨rfl,HO.out.1⟩
theorem ask_rtl (b pb : Nat) : Asks 211 #[.pointer (some ⟨pb,0,none⟩)] rtP (Gb b pb) :=
 ⟨enters_of Tryz.func211 (by kernel_rfl) rfl,fun W v X h1 h2 h3=>rtl1_any W v X h1 h2 h3,fun _ _ h hb=>h.step hb⟩
theorem gb_new {w : World} {b : Nat} (hB : Bk w b) : Gb b w.heap.size (w.alloc (.cells #[.pointer (some ⟨b,0,none⟩)] 29)):=⟨hB.step ((Ok.start w).alloc.1),Bx.new w _ _⟩
theorem both_any {w : World} {b : Nat} (hB : Bk w b) {ao : Option Addr} {n cap : Nat} {xs : List (Value × List Int)} (hX : xs.length = n) (hS : Lab w ao xs) (hs : ∀ z ∈ xs,z.2.length <= 1000000) (hn : n <= 1000000) :
 Calls Tryz.prog 136 #[.pointer (some ⟨b,0,none⟩),.slice ao n cap] w fun e w'=>e = .returned (.bool (anyL rtP xs)) ∧ Below w.heap.size w w':=by
 have HV:=hr (contl_any _ ao n cap (ask_rtl b w.heap.size) xs hX (hS.step ((Ok.start w).alloc.1)) hs (gb_new hB) hn);have HO:=hr ((Ok.start w).alloc (o:=.cells #[.pointer (some ⟨b,0,none⟩)] 29))
 clear hB hX hS hn hs;generalize anyL rtP xs = q at *;go_enter Tryz.func136,Tryz.ntmps136
 go_wp2_with fail;refine HV.out.mono ?_;rintro e w1 ⟨rfl,hb⟩;replace HO:=hr (HO.out.step hb);clear hb HV;go_wp2_with fail;go_ret;exact ⟨rfl,HO.out.1⟩
end Bi
end Go.Proofs.YtkhipgcgcbhjoaaGreat
