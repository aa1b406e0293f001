import Derived.Test.YtkhipgcgcbhjoaaGreatDn29
import Derived.Test.YtkhipgcgcbhjoaaGreatDn36
import Derived.Test.YtkhipgcgcbhjoaaGreatDn45
import Derived.Laws.RangeString
import Derived.Laws.IdiomStrings
set_option maxRecDepth 100000
set_option maxHeartbeats 4000000
namespace Go.Proofs.YtkhipgcgcbhjoaaGreat
namespace La
open Go.RowKit Od Pu
theorem hr4 {p : Prop} (h : p) : Hid p:=h
def rnI (s : ByteArray) : Nat -> Nat -> List Int
 | 0,_=>[]
 | n + 1,i=>if i < s.size then ((Utf8.decode s i).1 : Int) :: rnI s n (i + (Utf8.decode s i).2) else []
theorem rn_eq (s : ByteArray) : ∀ (n i : Nat) (acc : Array Value),Conv.runesFrom s n i acc = acc ++ (ivs .i32 (rnI s n i)).toArray
 | 0,_,acc=>by simp [Conv.runesFrom,rnI,ivs]
 | n + 1,i,acc=>by
  unfold Conv.runesFrom rnI;by_cases h : i < s.size
  ·rw [if_pos h,if_pos h];show Conv.runesFrom s n (i + (Utf8.decode s i).2) (acc.push (.int .i32 (Int.ofNat (Utf8.decode s i).1))) = _
   rw [rn_eq s n];apply Array.ext'
   simp [ivs]
  ·rw [if_neg h,if_neg h]; simp [ivs]
theorem rn_len (s : ByteArray) : ∀ (n i : Nat),(rnI s n i).length <= n
 | 0,_=>by simp [rnI]
 | n + 1,i=>by
  unfold rnI;split
  ·have:=rn_len s n (i + (Utf8.decode s i).2)
   simp; omega
  ·simp
theorem rn_none (s : ByteArray) : (rnI s s.size 0).length = 0 ↔ s.size = 0:=by
 constructor
 ·intro h
  rcases Nat.eq_zero_or_pos s.size with h0 | h0
  ·exact h0
  ·obtain ⟨n,hn⟩ : ∃ n,s.size = n + 1:=⟨s.size - 1,by omega⟩
   rw [hn,rnI,if_pos h0] at h;simp at h
 ·intro h
  rw [h]; rfl
theorem rn_ascii (s : ByteArray) (h : ∀ x ∈ bsI s,x < 128) : ∀ (n i : Nat),i + n = s.size -> rnI s n i = (bsI s).drop i
 | 0,i,e=>by rw [rnI,List.drop_eq_nil_of_le (by rw [bsI_len]; omega)]
 | n + 1,i,e=>by
  have hi : i < s.size:=by omega
  have hb:=bsI_drop s i hi
  have hx : (s[i].toNat : Int) < 128:=h _ (List.mem_of_mem_drop (by rw [hb]; exact List.mem_cons_self))
  rw [rnI,if_pos hi,Go.decode_ascii s i hi (by omega),hb];show _ :: rnI s n (i + 1) = _
  rw [rn_ascii s h n (i + 1) (by omega)]
structure Ask8 (g : Nat) (q : Int -> Bool) : Prop where
 enter : ∀ args w,(callFunc g args).run Tryz.prog w = .ok (.enter g args) w
 call : ∀ W x,Calls Tryz.prog g #[.int .u8 x] W fun e w'=>e = .returned (.bool (q x)) ∧ w' = W
theorem idx8_any {p : Int -> Bool} {g : Nat} (w : World) (ao : Option Addr) (n cap : Nat) (hC : Ask8 g p) (X : List Int) (hX : X.length = n) (hS : SlP .u8 w ao cap X) (hn : n <= 1000000) :
 Calls Tryz.prog 121 #[.slice ao n cap,.func (.func g) #[] #[]] w fun e w'=>∃ z : Int,e = .returned (.int .i64 z) ∧ (0 <= z ↔ X.any p = true) ∧ w' = w:=by
 have HC:=hr4 hC
 have HX:=hr4 hX
 have HS:=hr4 hS
 clear hC hX hS;have hen:=HC.out.enter
 go_enter Tryz.func121,Tryz.ntmps121
 go_wp2_with fail;go_loop [8] (fun vi=>∃ k : Nat,k <= n ∧ vi = .int .i64 k ∧ Hid (∀ j (hj : j < X.length),j < k -> p X[j] = false)) (fun vi=>n - (intOf vi).toNat)
 case atStart=>exact ⟨0,Nat.zero_le _,rfl,fun j _ h=>by omega⟩
 case round =>
  obtain ⟨k,hk,rfl,H⟩:=hrel
  by_cases hlt : k < n
  ·have hlx : k < X.length:=by have:=HX.out; omega
   obtain ⟨b,off,rfl,hb,c1⟩:=HS.out.at_ k hlx
   have HV:=hr4 (HC.out.call w X[k]);have z1 : (k : Int) < (n : Int):=by omega
   by_cases hp : p X[k] = true
   ·have HE : Hid ((0 : Int) <= (k : Int) ↔ X.any p = true):=⟨fun _=>List.any_eq_true.2 ⟨X[k],List.getElem_mem hlx,hp⟩,fun _=>by omega⟩
    rw [hp] at HV;generalize X[k] = x at *;clear hp;go_wp2_with fail;refine HV.out.mono ?_;rintro e w' ⟨rfl,rfl⟩;go_wp2_with fail;try rw [Exit.noGoto_ret]
    go_ret;exact ⟨_,rfl,HE.out,rfl⟩
   ·have hp2 : p X[k] = false:=by simpa using hp
    have HN0 : Hid (∀ j (hj : j < X.length),j < k + 1 -> p X[j] = false):=fun j hj h=>by
     by_cases e : j = k
     ·subst e; exact hp2
     ·exact H.out j hj (by omega)
    rw [hp2] at HV;generalize X[k] = x at *;clear hp hp2;go_wp2_with fail;refine HV.out.mono ?_;rintro e w' ⟨rfl,rfl⟩;go_wp2_with fail;go_round
    case rel=>exact ⟨k + 1,hlt,by go_num,HN0⟩
    case measure=>(simp [intOf]) <;> omega
  ·have z1 : ¬ (k : Int) < (n : Int):=by omega
   have HE : Hid ((0 : Int) <= -1 ↔ X.any p = true):=⟨fun h=>by omega,fun h=>by
    obtain ⟨x,hx,hp⟩:=List.any_eq_true.1 h
    obtain ⟨j,hj,rfl⟩:=List.mem_iff_getElem.1 hx
    rw [H.out j hj (by have:=HX.out; omega)] at hp
    cases hp⟩
   go_wp2_with fail;go_ret;exact ⟨_,rfl,by first | exact HE.out | (rw [<- List.any_eq_true]; exact HE.out),rfl⟩
theorem cont8_any {p : Int -> Bool} {g : Nat} (w : World) (ao : Option Addr) (n cap : Nat) (hC : Ask8 g p) (X : List Int) (hX : X.length = n) (hS : SlP .u8 w ao cap X) (hn : n <= 1000000) :
 Calls Tryz.prog 63 #[.slice ao n cap,.func (.func g) #[] #[]] w fun e w'=>e = .returned (.bool (X.any p)) ∧ w' = w:=by
 have HI:=hr4 (idx8_any w ao n cap hC X hX hS hn);clear hC hX hS;go_enter Tryz.func63,Tryz.ntmps63
 go_wp2_with fail;refine HI.out.mono ?_;rintro e w1 ⟨z,rfl,h1,rfl⟩;have HE : Hid (X.any p = decide (0 <= z)):=by show _ = _; rw [Bool.eq_iff_iff,decide_eq_true_eq]; exact h1.symm
 clear h1;go_wp2_with fail;go_ret;refine ⟨ret_bool ?_,rfl⟩
 rw [HE.out];try rfl
theorem ask_fo : Ask8 64 foB:=⟨enters_of Tryz.func64 (by kernel_rfl) rfl,fun W x=>foreign_any x W⟩
def oldP (L : List Int) : Int:=if L = [] then 1 else if L.any foB = true then 11 else if edB L = true then 4 else if hyB L = true then 3 else if 63 < L.length then 10 else 0
theorem fo_ck : (List.range 256).all (fun n=>foB (n : Int) || decide (n < 128)) = true:=by decide +kernel
theorem fo_lt {x : Int} (h0 : 0 <= x) (h1 : x <= 255) (h : foB x = false) : x < 128:=by
 have:=List.all_eq_true.1 fo_ck x.toNat (List.mem_range.2 (by omega))
 rw [show ((x.toNat : Nat) : Int) = x by omega,h,Bool.false_or,decide_eq_true_eq] at this
 omega
theorem bsI_bd4 (s : ByteArray) : ∀ x ∈ bsI s,0 <= x ∧ x <= 255:=fun x hx=>by
 unfold bsI at hx;obtain ⟨b,_,rfl⟩:=List.mem_map.1 hx
 exact ⟨by omega,byte_le b⟩
theorem u8_sl (w : World) (s : ByteArray) (cap : Nat) (e : TypeId) (hc : s.size <= cap) : SlP .u8 (w.alloc (.cells (bytesRow s cap) e ((bytesRow s cap).size,(bytesRow s cap).size + 1))) (some ⟨w.heap.size,0,none⟩) cap (bsI s):=by
 refine ⟨by rw [bsI_len]; exact hc,fun e=>(by cases e),fun j hj=>⟨w.heap.size,0,rfl,(Array.getElem?_eq_some_iff.1 (heap_new w _)).1,?_⟩⟩
 have hj' : j < s.data.size:=by rw [bsI_len] at hj; exact hj
 rw [Nat.zero_add,World.cell?_alloc_mark,bytesRow_at s cap j hj'];congr 2
 simp [bsI]
theorem i32_sl (w : World) (X : List Int) (cap : Nat) (T : Array Value) (e : TypeId) (hc : X.length <= cap) : SlP .i32 (w.alloc (.cells ((ivs .i32 X).toArray ++ T) e)) (some ⟨w.heap.size,0,none⟩) cap X:=by
 refine ⟨hc,fun e=>(by cases e),fun j hj=>⟨w.heap.size,0,rfl,(Array.getElem?_eq_some_iff.1 (heap_new w _)).1,?_⟩⟩
 rw [Nat.zero_add];unfold World.cell?
 rw [heap_new w _];simp only
 rw [Array.getElem?_append_left (by simp [ivs]; exact hj)]
 simp [ivs,hj]
theorem old_any (s : ByteArray) (hs : s.size <= 100000) (w : World) : Calls Tryz.prog 20 #[.string s] w fun e w'=>e = .returned (.int .i64 (oldP (bsI s))) ∧ Below w.heap.size w w':=by
 have hm : (rnI s s.size 0).length <= 100000:=by have:=rn_len s s.size 0; omega
 have hz0 : (Conv.runesFrom s s.size 0 #[]).size = (rnI s s.size 0).length:=by rw [rn_eq]; simp [ivs]
 have hcv:=run_runes_of_string (P:=Tryz.prog) w 9 22 21 s Tryz.underlying9 Tryz.underlying22 Tryz.underlying21 (by rw [hz0]; omega)
 rw [hz0] at hcv;have hge:=grownCap_ge w (rnI s s.size 0).length 0 21
 have hrn : Conv.runesFrom s s.size 0 #[] = (ivs .i32 (rnI s s.size 0)).toArray:=by rw [rn_eq]; simp
 rw [hrn] at hcv;have hnn:=rn_none s
 have hasc : (∀ x ∈ bsI s,x < 128) -> rnI s s.size 0 = bsI s:=fun h=>by rw [rn_ascii s h s.size 0 (by omega),List.drop_zero]
 have hbd:=bsI_bd4 s
 have hbl:=bsI_len s
 generalize grownCap w (rnI s s.size 0).length 0 21 = cp at *;have hS:=i32_sl w.drew (rnI s s.size 0) cp (Array.replicate (cp - (rnI s s.size 0).length) (.int .i32 0)) 21 (by omega)
 have hB : Below w.heap.size w (w.drew.alloc (.cells ((ivs .i32 (rnI s s.size 0)).toArray ++ Array.replicate (cp - (rnI s s.size 0).length) (.int .i32 0)) 21)):=((Below.refl _ _).drew).alloc (Nat.le_refl _) _
 have hg : (w.drew).heap.size = w.heap.size:=rfl
 rw [hg] at hS;generalize w.drew.alloc (.cells ((ivs .i32 (rnI s s.size 0)).toArray ++ Array.replicate (cp - (rnI s s.size 0).length) (.int .i32 0)) 21) = W1 at *
 have hcv2:=run_bytes_of_string (P:=Tryz.prog) W1 9 61 5 s Tryz.underlying9 Tryz.underlying61 Tryz.underlying5
 have hge2:=grownCap_ge W1 s.size 0 5
 have hS2:=u8_sl W1 s (grownCap W1 s.size 0 5) 5 hge2
 have hB2:=Below.conv W1 (.cells (bytesRow s (grownCap W1 s.size 0 5)) 5 ((bytesRow s (grownCap W1 s.size 0 5)).size,(bytesRow s (grownCap W1 s.size 0 5)).size + 1))
 have hB2' : Below W1.heap.size W1 (W1.alloc (.cells (bytesRow s (grownCap W1 s.size 0 5)) 5 ((bytesRow s (grownCap W1 s.size 0 5)).size,(bytesRow s (grownCap W1 s.size 0 5)).size + 1))):=(Below.refl _ _).alloc (Nat.le_refl _) _
 generalize grownCap W1 s.size 0 5 = cp2 at *;replace hS2 : SlP .u8 (W1.alloc (.cells (bytesRow s cp2) 5 ((bytesRow s cp2).size,(bytesRow s cp2).size + 1))).drew (some ⟨W1.heap.size,0,none⟩) cp2 (bsI s):=hS2.step ((Below.refl _ _).drew)
 clear hge hge2 hB2' hrn hz0 hg;have HCt:=hr4 (cont8_any _ _ s.size cp2 ask_fo (bsI s) hbl hS2 (by omega));clear hS2;have HO : Hid (Ok w.heap.size w (W1.alloc (.cells (bytesRow s cp2) 5 ((bytesRow s cp2).size,(bytesRow s cp2).size + 1))).drew):=⟨hB.trans (hB2.mono hB.size),Nat.le_trans hB.size hB2.size⟩
 have HS : Hid (SlP .i32 (W1.alloc (.cells (bytesRow s cp2) 5 ((bytesRow s cp2).size,(bytesRow s cp2).size + 1))).drew (some ⟨w.heap.size,0,none⟩) cp (rnI s s.size 0)):=hS.step hB2
 have HB:=hr4 hB
 have HHd:=hr4 (And.intro hasc hbd);have HBl:=hr4 hbl
 clear hS hB hB2 hasc hbd hbl;generalize rnI s s.size 0 = X at *;by_cases h0 : s.size = 0
 ·have hX:=hnn.2 h0
  have HE : Hid (oldP (bsI s) = 1):=by
   show _ = _;have : bsI s = []:=List.length_eq_zero_iff.1 (by rw [HBl.out]; exact h0)
   unfold oldP;rw [this]; rfl
  rw [hX] at hcv;clear hnn h0 hcv2;go_enter Tryz.func20,Tryz.ntmps20
  go_wp2_with fail;go_ret;exact ⟨ret_int HE.out.symm,HB.out⟩
 ·have hX : ¬ X.length = 0:=fun e=>h0 (hnn.1 e)
  have hne : ¬ bsI s = []:=fun e=>h0 (by rw [<- HBl.out,e]; rfl)
  clear hnn;have HLn : Hid (X.length = X.length ∧ 0 < X.length):=⟨rfl,by omega⟩
  generalize hlen : X.length = n at *;have z0 : ((n : Int) == 0) = false:=beq_eq_false_iff_ne.2 (by omega)
  by_cases hF : (bsI s).any foB = true
  ·have HE : Hid (oldP (bsI s) = 11):=by show _ = _; unfold oldP; rw [if_neg hne,if_pos hF]
   rw [hF] at HCt;clear hF hne;go_enter Tryz.func20,Tryz.ntmps20
   go_wp2_with fail;refine HCt.out.mono ?_;rintro e w3 ⟨rfl,rfl⟩;go_wp2_with fail;go_ret;exact ⟨ret_int HE.out.symm,HO.out.1⟩
  ·have hF' : (bsI s).any foB = false:=by simpa using hF
   have hX2 : X = bsI s:=HHd.out.1 (fun x hx=>by
    have h1:=HHd.out.2 x hx
    have h2:=List.any_eq_false.1 hF' x hx
    exact fo_lt h1.1 h1.2 (by simpa using h2))
   have HE : Hid (oldP (bsI s) = if edB (bsI s) = true then 4 else if hyB (bsI s) = true then 3 else if 63 < s.size then 10 else 0):=by show _ = _;unfold oldP;rw [if_neg hne,if_neg hF,HBl.out]
   rw [hF'] at HCt;have HEd:=hr4 (fun (W : World) (h : Below (W1.alloc (.cells (bytesRow s cp2) 5 ((bytesRow s cp2).size,(bytesRow s cp2).size + 1))).drew.heap.size (W1.alloc (.cells (bytesRow s cp2) 5 ((bytesRow s cp2).size,(bytesRow s cp2).size + 1))).drew W)=>edge_any hlen (HS.out.step h) (by omega) (by omega))
   have HHy:=hr4 (fun (W : World) (h : Below (W1.alloc (.cells (bytesRow s cp2) 5 ((bytesRow s cp2).size,(bytesRow s cp2).size + 1))).drew.heap.size (W1.alloc (.cells (bytesRow s cp2) 5 ((bytesRow s cp2).size,(bytesRow s cp2).size + 1))).drew W)=>hyph_any hlen (HS.out.step h) (by omega))
   rw [hX2] at HEd HHy
   clear hF hF' hne hX2 HS HHd;go_enter Tryz.func20,Tryz.ntmps20
   go_wp2_with fail;refine HCt.out.mono ?_;rintro e w3 ⟨rfl,rfl⟩;go_wp2_with fail;refine (HEd.out _ (Below.refl _ _)).mono ?_;rintro e w4 ⟨rfl,hb⟩;have HB4:=hr4 hb
   replace HO:=hr4 (HO.out.step hb);clear hb HEd;cases hed : edB (bsI s)
   case true =>
    rw [hed] at HE;go_wp2_with fail;go_ret;exact ⟨ret_int HE.out.symm,HO.out.1⟩
   rw [hed] at HE;go_wp2_with fail;refine (HHy.out _ HB4.out).mono ?_;rintro e w5 ⟨rfl,hb⟩;replace HO:=hr4 (HO.out.step hb);clear hb HHy;cases hhy : hyB (bsI s)
   case true =>
    rw [hhy] at HE;go_wp2_with fail;go_ret;exact ⟨ret_int HE.out.symm,HO.out.1⟩
   rw [hhy] at HE;by_cases h63 : 63 < s.size
   ·have HE2 : Hid (oldP (bsI s) = 10):=by show _ = _; rw [HE.out,if_pos h63]; rfl
    have z1 : (63 : Int) < s.size:=by omega
    clear h63;go_wp2_with fail;go_ret;exact ⟨ret_int HE2.out.symm,HO.out.1⟩
   ·have HE2 : Hid (oldP (bsI s) = 0):=by show _ = _; rw [HE.out,if_neg h63]; rfl
    have z1 : ¬ (63 : Int) < s.size:=by omega
    clear h63;go_wp2_with fail;go_ret;exact ⟨ret_int HE2.out.symm,HO.out.1⟩
def xn : ByteArray:=⟨#[120,110,45,45]⟩
def cdS (s : ByteArray) : Bool:=decide (4 <= s.size) && decide (Oc.lowS (s.extract 0 4) = xn)
theorem low_xn : Oc.lowS xn = xn:=by decide +kernel
theorem eqS_dec (a b : ByteArray) : eqS a b = decide (a = b):=by
 rw [Bool.eq_iff_iff];unfold eqS;rw [beq_iff_eq,decide_eq_true_eq,ByteArray.toList_eq,ByteArray.toList_eq];constructor
 ·intro h; exact ByteArray.ext (Array.toList_inj.1 h)
 ·intro h; rw [h]
theorem coded_any (s : ByteArray) (hs : s.size <= 1000000) (w : World) : Calls Tryz.prog 22 #[.string s] w fun e w'=>e = .returned (.bool (cdS s)) ∧ Below w.heap.size w w':=by
 by_cases h : 4 <= s.size
 ·have HE : Hid (cdS s = eqS (Oc.lowS (s.extract 0 4)) (Oc.lowS xn)):=by
   show _ = _;unfold cdS;rw [decide_eq_true h,Bool.true_and,low_xn,eqS_dec]
  have z4 : (4 : Int) <= s.size:=by omega
  have HSm:=hr4 (fun W=>Oc.same_any (s.extract 0 4) xn W (by unfold maxLen; rw [ByteArray.size_extract]; omega) (by unfold maxLen; decide))
  have hxn : xn = ⟨#[120,110,45,45]⟩:=rfl
  rw [hxn] at HSm;clear h;go_enter Tryz.func22,Tryz.ntmps22
  go_wp2_with fail;refine (HSm.out _).mono ?_;rintro e w1 ⟨rfl,hb⟩;go_wp2_with fail;go_ret;exact ⟨ret_bool HE.out.symm,hb⟩
 ·have HE : Hid (cdS s = false):=by
   show _ = _;unfold cdS;rw [decide_eq_false h]; rfl
  have z4 : ¬ (4 : Int) <= s.size:=by omega
  clear h;go_enter Tryz.func22,Tryz.ntmps22
  go_wp2_with fail;go_ret;exact ⟨ret_bool HE.out.symm,Below.refl _ _⟩
end La
end Go.Proofs.YtkhipgcgcbhjoaaGreat
