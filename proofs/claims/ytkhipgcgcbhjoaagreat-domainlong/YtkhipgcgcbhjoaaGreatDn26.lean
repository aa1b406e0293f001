import Derived.Lib.DecodeN
import Derived.Lib.RuneBytes
import Derived.Laws.Strings
import Derived.Test.YtkhipgcgcbhjoaaGreatDn1
import Derived.Deep.QuietTactic
import Derived.BigQuiet
import Derived.Lib.OthersKept
import Derived.BigCall
import Derived.Deep.MidRow
import Derived.Deep.WholeRow
import Derived.Deep.RegionWith
set_option maxRecDepth 100000
set_option maxHeartbeats 4000000
namespace Go.Proofs.YtkhipgcgcbhjoaaGreat.Ut
def bt (l : List UInt8) (j : Nat) : Nat:=(l.getD j 0).toNat
theorem bt_lt (l : List UInt8) (j : Nat) : bt l j < 256:=by unfold bt; exact (l.getD j 0).toNat_lt
def rowB (b : Nat) : Nat × Nat × Nat :=
 if b <= 127 then (1,0,0) else if 194 <= b ∧ b <= 223 then (2,128,191) else if b = 224 then (3,160,191) else if 225 <= b ∧ b <= 236 then (3,128,191)
 else if b = 237 then (3,128,159) else if 238 <= b ∧ b <= 239 then (3,128,191) else if b = 240 then (4,144,191) else if 241 <= b ∧ b <= 243 then (4,128,191)
 else if b = 244 then (4,128,143) else (0,0,0)
def goOn (l : List UInt8) (j : Nat) : Prop :=
 j < (rowB (bt l 0)).1 ∧ j < l.length ∧ (if j = 1 then (rowB (bt l 0)).2.1 else 128) <= bt l j ∧ bt l j <= (if j = 1 then (rowB (bt l 0)).2.2 else 191)
def goB (l : List UInt8) (j : Nat) : Bool :=
 decide (j < (rowB (bt l 0)).1 ∧ j < l.length ∧ (if j = 1 then (rowB (bt l 0)).2.1 else 128) <= bt l j ∧ bt l j <= (if j = 1 then (rowB (bt l 0)).2.2 else 191))
theorem goB_iff (l : List UInt8) (j : Nat) : goB l j = true ↔ goOn l j:=by unfold goB goOn; exact decide_eq_true_iff
theorem goB_no (l : List UInt8) (j : Nat) : goB l j = false ↔ ¬ goOn l j:=by rw [<- goB_iff]; exact Bool.eq_false_iff
def fit (l : List UInt8) : Nat:=if goB l 1 = false then 1 else if goB l 2 = false then 2 else if goB l 3 = false then 3 else 4
theorem rowB_le (b : Nat) : (rowB b).1 <= 4:=by unfold rowB; repeat' split <;> try simp
theorem goOn_lt {l : List UInt8} {j : Nat} (h : goOn l j) : j < 4:=by have:=rowB_le (bt l 0); unfold goOn at h; omega
theorem fit_ways (l : List UInt8) : (¬ goOn l 1 ∧ fit l = 1) ∨ (goOn l 1 ∧ ¬ goOn l 2 ∧ fit l = 2) ∨ (goOn l 1 ∧ goOn l 2 ∧ ¬ goOn l 3 ∧ fit l = 3) ∨ (goOn l 1 ∧ goOn l 2 ∧ goOn l 3 ∧ fit l = 4):=by unfold fit;rw [<- goB_iff,<- goB_iff,<- goB_iff];cases goB l 1 <;> cases goB l 2 <;> cases goB l 3 <;> simp
theorem fit_spec (l : List UInt8) : 1 <= fit l ∧ fit l <= 4 ∧ (∀ j,1 <= j -> j < fit l -> goOn l j) ∧ ¬ goOn l (fit l):=by
 have h4 : ¬ goOn l 4:=fun h=>by have:=goOn_lt h; omega
 rcases fit_ways l with ⟨g,e⟩ | ⟨g1,g,e⟩ | ⟨g1,g2,g,e⟩ | ⟨g1,g2,g3,e⟩
 ·rw [e]; exact ⟨by omega,by omega,fun j a b=>by omega,g⟩
 ·rw [e]; refine ⟨by omega,by omega,fun j a b=>?_,g⟩
  have c : j = 1:=by omega
  subst c; exact g1
 ·rw [e]; refine ⟨by omega,by omega,fun j a b=>?_,g⟩
  have c : j = 1 ∨ j = 2:=by omega
  rcases c with rfl | rfl
  ·exact g1
  ·exact g2
 ·rw [e]; refine ⟨by omega,by omega,fun j a b=>?_,h4⟩
  have c : j = 1 ∨ j = 2 ∨ j = 3:=by omega
  rcases c with rfl | rfl | rfl
  ·exact g1
  ·exact g2
  ·exact g3
theorem fit_eq (l : List UInt8) (n : Nat) (h1 : 1 <= n) (h : ∀ j,1 <= j -> j < n -> goOn l j) (hn : ¬ goOn l n) : fit l = n:=by
 obtain ⟨f1,f4,fg,fn⟩:=fit_spec l
 rcases Nat.lt_trichotomy (fit l) n with hlt | heq | hgt
 ·exact absurd (h _ f1 hlt) fn
 ·exact heq
 ·exact absurd (fg n h1 hgt) hn
def okL (l : List UInt8) : Bool:=decide (l ≠ []) && decide ((rowB (bt l 0)).1 = fit l)
def valL (l : List UInt8) : Nat :=
 if (rowB (bt l 0)).1 = 1 then bt l 0 else if (rowB (bt l 0)).1 = 2 then (bt l 0 - 192) * 64 + (bt l 1 - 128)
 else if (rowB (bt l 0)).1 = 3 then ((bt l 0 - 224) * 64 + (bt l 1 - 128)) * 64 + (bt l 2 - 128)
 else (((bt l 0 - 240) * 64 + (bt l 1 - 128)) * 64 + (bt l 2 - 128)) * 64 + (bt l 3 - 128)
theorem get!_bt (s : ByteArray) (i k : Nat) : (s.get! (i + k)).toNat = bt (s.data.toList.drop i) k:=by
 unfold bt;rw [List.getD_eq_getElem?_getD,List.getElem?_drop];by_cases h : i + k < s.size
 ·rw [List.getElem?_eq_getElem (by simpa using h)];simp [ByteArray.get!,getElem!_pos,h]
 ·rw [List.getElem?_eq_none (by simp; omega)]
  have : s.get! (i + k) = default:=by simp [ByteArray.get!,getElem!_neg,h]
  rw [this]; rfl
theorem rowB_all : ∀ b : Fin 256,(b.1 <= 127 ∧ rowB b.1 = (1,0,0)) ∨ (194 <= b.1 ∧ b.1 <= 223 ∧ rowB b.1 = (2,128,191)) ∨ (b.1 = 224 ∧ rowB b.1 = (3,160,191)) ∨ (225 <= b.1 ∧ b.1 <= 236 ∧ rowB b.1 = (3,128,191)) ∨
 (b.1 = 237 ∧ rowB b.1 = (3,128,159)) ∨ (238 <= b.1 ∧ b.1 <= 239 ∧ rowB b.1 = (3,128,191)) ∨ (b.1 = 240 ∧ rowB b.1 = (4,144,191)) ∨ (241 <= b.1 ∧ b.1 <= 243 ∧ rowB b.1 = (4,128,191)) ∨
 (b.1 = 244 ∧ rowB b.1 = (4,128,143)) ∨ (((128 <= b.1 ∧ b.1 <= 193) ∨ (245 <= b.1 ∧ b.1 <= 255)) ∧ rowB b.1 = (0,0,0)):=by decide +kernel
theorem rowB_cases (b : Nat) (hb : b < 256) :
 (b <= 127 ∧ rowB b = (1,0,0)) ∨ (194 <= b ∧ b <= 223 ∧ rowB b = (2,128,191)) ∨ (b = 224 ∧ rowB b = (3,160,191)) ∨ (225 <= b ∧ b <= 236 ∧ rowB b = (3,128,191)) ∨
 (b = 237 ∧ rowB b = (3,128,159)) ∨ (238 <= b ∧ b <= 239 ∧ rowB b = (3,128,191)) ∨ (b = 240 ∧ rowB b = (4,144,191)) ∨ (241 <= b ∧ b <= 243 ∧ rowB b = (4,128,191)) ∨
 (b = 244 ∧ rowB b = (4,128,143)) ∨ (((128 <= b ∧ b <= 193) ∨ (245 <= b ∧ b <= 255)) ∧ rowB b = (0,0,0)):=rowB_all ⟨b,hb⟩
theorem okL_iff (l : List UInt8) : okL l = true ↔ l ≠ [] ∧ (rowB (bt l 0)).1 = fit l:=by unfold okL; simp
theorem decodeN_eq (n b0 b1 b2 b3 : Nat) (l : List UInt8) (hn : l.length = n) (h0 : bt l 0 = b0) (h1 : bt l 1 = b1) (h2 : bt l 2 = b2) (h3 : bt l 3 = b3) (hp : 1 <= n) :
 Lib.decodeN n b0 b1 b2 b3 = if okL l then (valL l,fit l) else (65533,1):=by
 have hb0 : b0 < 256:=h0 ▸ bt_lt l 0
 have hb1 : b1 < 256:=h1 ▸ bt_lt l 1
 have hb2 : b2 < 256:=h2 ▸ bt_lt l 2
 have hb3 : b3 < 256:=h3 ▸ bt_lt l 3
 have hne : l ≠ []:=by intro e; subst e; simp at hn; omega
 have hok : okL l = decide ((rowB b0).1 = fit l):=by unfold okL; rw [h0]; simp [hne]
 have g1 : goB l 1 = false ↔ ¬ (1 < (rowB b0).1 ∧ 1 < n ∧ (rowB b0).2.1 <= b1 ∧ b1 <= (rowB b0).2.2):=by rw [goB_no]; unfold goOn; rw [h0,h1,hn]; simp
 have g2 : goB l 2 = false ↔ ¬ (2 < (rowB b0).1 ∧ 2 < n ∧ 128 <= b2 ∧ b2 <= 191):=by rw [goB_no]; unfold goOn; rw [h0,h2,hn]; simp
 have g3 : goB l 3 = false ↔ ¬ (3 < (rowB b0).1 ∧ 3 < n ∧ 128 <= b3 ∧ b3 <= 191):=by rw [goB_no]; unfold goOn; rw [h0,h3,hn]; simp
 rw [hok];unfold valL fit;simp only [h0,h1,h2,h3,g1,g2,g3]
 clear g1 g2 g3 hok hne h0 h1 h2 h3;rcases rowB_cases b0 hb0 with ⟨c,e⟩ | ⟨c,c',e⟩ | ⟨c,e⟩ | ⟨c,c',e⟩ | ⟨c,e⟩ | ⟨c,c',e⟩ | ⟨c,e⟩ | ⟨c,c',e⟩ | ⟨c,e⟩ | ⟨c,e⟩
 all_goals
  rw [e];unfold Lib.decodeN;clear e;simp only [decide_eq_true_eq,if_true,if_false,true_and,false_and,not_false_eq_true,Nat.reduceLT,Nat.reduceEqDiff]
  repeat' split
 all_goals first | (exfalso; omega) | (apply Prod.ext <;> simp only <;> omega)
theorem decode_eq (s : ByteArray) (i : Nat) (h : i < s.size) : Utf8.decode s i = if okL (s.data.toList.drop i) then (valL (s.data.toList.drop i),fit (s.data.toList.drop i)) else (65533,1):=by rw [Lib.decode_at];exact decodeN_eq _ _ _ _ _ _ (by simp) (get!_bt s i 0).symm (get!_bt s i 1).symm (get!_bt s i 2).symm (get!_bt s i 3).symm (by omega)
end Go.Proofs.YtkhipgcgcbhjoaaGreat.Ut
namespace Go.Proofs.YtkhipgcgcbhjoaaGreat.Ut
open Go.RowKit
def scB (r : Int) : Bool:=decide ((0 <= r ∧ r < 55296) ∨ (57343 < r ∧ r <= 1114111))
theorem sc_any (r : Int) (w : World) : Calls Tryz.prog 137 #[.int .i32 r] w fun e w'=>e = .returned (.bool (scB r)) ∧ w' = w:=by
 have C : r < 0 ∨ (0 <= r ∧ r < 55296) ∨ (55296 <= r ∧ r <= 57343) ∨ (57343 < r ∧ r <= 1114111) ∨ 1114111 < r:=by omega
 rcases C with h | ⟨h,h'⟩ | ⟨h,h'⟩ | ⟨h,h'⟩ | h
 all_goals
  go_enter Tryz.func137,Tryz.ntmps137
  go_wp2
  go_ret;exact ⟨ret_bool (by unfold scB; first | (rw [eq_comm,decide_eq_true_iff]; omega) | (rw [eq_comm,decide_eq_false_iff_not]; omega) | (rw [Bool.eq_iff_iff]; simp; omega)),rfl⟩
theorem rsc_any (r : Int) (w : World) : Calls Tryz.prog 220 #[.int .i64 r] w fun e w'=>e = .returned (.bool (scB r)) ∧ w' = w:=by
 have C : r < 0 ∨ (0 <= r ∧ r < 55296) ∨ (55296 <= r ∧ r <= 57343) ∨ (57343 < r ∧ r <= 1114111) ∨ 1114111 < r:=by omega
 rcases C with h | ⟨h,h'⟩ | ⟨h,h'⟩ | ⟨h,h'⟩ | h
 all_goals
  go_enter Tryz.func220,Tryz.ntmps220
  go_wp2
  go_ret;exact ⟨ret_bool (by unfold scB; first | (rw [eq_comm,decide_eq_true_iff]; omega) | (rw [eq_comm,decide_eq_false_iff_not]; omega) | (rw [Bool.eq_iff_iff]; simp; omega)),rfl⟩
def encS (r : Int) : ByteArray:=if scB r then Utf8.encode r else ⟨#[]⟩
def signB (l : List UInt8) : Bool:=l.take 3 == [239,191,189]
theorem fault_no (s : ByteArray) (i r : Int) (w : World) (h : r ≠ 65533) : Calls Tryz.prog 204 #[.string s,.int .i64 i,.int .i32 r] w fun e w'=>e = .returned (.bool false) ∧ w' = w:=by
 have h' : (r == 65533) = false:=by simpa using h
 clear h;go_enter Tryz.func204,Tryz.ntmps204
 go_wp2
 go_ret;exact ⟨rfl,rfl⟩
theorem fault_is (s : ByteArray) (i : Nat) (w : World) (hi : i <= s.size) : Calls Tryz.prog 204 #[.string s,.int .i64 i,.int .i32 65533] w fun e w'=>e = .returned (.bool (!signB (s.data.toList.drop i))) ∧ w' = w:=by
 by_cases h3 : 3 <= s.size - i
 ·have H : Hid (((s.extract i s.size).extract 0 3).toList = (s.data.toList.drop i).take 3):=by
   show _ = _;rw [ByteArray.toList_eq,ext_list,ext_end]; rfl
  go_enter Tryz.func204,Tryz.ntmps204
  go_wp2
  go_ret;exact ⟨ret_bool (by show (!(_ == _)) = (!signB _); unfold signB; rw [H.out]),rfl⟩
 ·have H : Hid (signB (s.data.toList.drop i) = false):=by
   show (_ == _) = _
   rw [beq_eq_false_iff_ne];intro e
   have e2:=congrArg List.length e
   simp at e2; omega
  go_enter Tryz.func204,Tryz.ntmps204
  go_wp2
  go_ret;exact ⟨ret_bool (by rw [H.out]; rfl),rfl⟩
theorem bt_at (s : ByteArray) (k : Nat) (h : k < s.size) : bt s.data.toList k = s[k].toNat:=by unfold bt;rw [List.getD_eq_getElem?_getD,List.getElem?_eq_getElem (by simpa using h)]; rfl
theorem ofNat_bt (l : List UInt8) (j : Nat) : UInt8.ofNat (bt l j) = l.getD j 0:=by unfold bt; exact UInt8.ofNat_toNat
theorem take_bt (l : List UInt8) : ∀ n,n <= l.length -> l.take n = (List.range n).map fun j=>l.getD j 0:=by
 intro n hn
 apply List.ext_getElem
 ·simp; omega
 ·intro i h1 h2
  simp at h1
  have h3 : i < l.length:=by omega
  simp [List.getD_eq_getElem?_getD,List.getElem?_eq_getElem h3]
theorem sign_ok (l : List UInt8) (h : signB l = true) : okL l = true:=by
 unfold signB at h;have e : l.take 3 = [239,191,189]:=by simpa using h
 have hl : 3 <= l.length:=by have:=congrArg List.length e; simp at this; omega
 rw [take_bt l 3 hl] at e;simp only [List.range,List.range.loop,List.map_cons,List.map_nil,List.cons.injEq,and_true] at e
 obtain ⟨e0,e1,e2⟩:=e
 have b0 : bt l 0 = 239:=by unfold bt; rw [e0]; rfl
 have b1 : bt l 1 = 191:=by unfold bt; rw [e1]; rfl
 have b2 : bt l 2 = 189:=by unfold bt; rw [e2]; rfl
 rw [okL_iff];refine ⟨by intro e; subst e; simp at hl,?_⟩
 have r : rowB (bt l 0) = (3,128,191):=by rw [b0]; rfl
 rw [r];refine (fit_eq l 3 (by omega) (fun j a b=>?_) ?_).symm
 ·have c : j = 1 ∨ j = 2:=by omega
  rcases c with rfl | rfl
  ·unfold goOn; rw [r,b1]; simp; omega
  ·unfold goOn; rw [r,b2]; simp; omega
 ·unfold goOn; rw [r]; simp
theorem ok_facts (l : List UInt8) (h : okL l = true) : scB (valL l) = true ∧ (Utf8.encode (valL l)).data.toList = l.take (fit l) ∧ fit l <= l.length ∧ (valL l = 65533 -> signB l = true):=by
 obtain ⟨hne,hf⟩:=(okL_iff l).1 h
 obtain ⟨f1,f4,fg,fn⟩:=fit_spec l
 have hlen : 1 <= l.length:=by cases l with | nil=>exact absurd rfl hne | cons a b=>simp
 have hb1:=bt_lt l 1
 have hb2:=bt_lt l 2
 have hb3:=bt_lt l 3
 have g1 : goOn l 1 -> 1 < l.length ∧ (rowB (bt l 0)).2.1 <= bt l 1 ∧ bt l 1 <= (rowB (bt l 0)).2.2:=fun g=>by unfold goOn at g; simpa using g.2
 have g2 : goOn l 2 -> 2 < l.length ∧ 128 <= bt l 2 ∧ bt l 2 <= 191:=fun g=>by unfold goOn at g; simpa using g.2
 have g3 : goOn l 3 -> 3 < l.length ∧ 128 <= bt l 3 ∧ bt l 3 <= 191:=fun g=>by unfold goOn at g; simpa using g.2
 have enc : ∀ c : Nat,scB c = true -> (Utf8.encode c).data.toList = if c < 128 then [UInt8.ofNat c] else if c < 2048 then [UInt8.ofNat (192 + c / 64),UInt8.ofNat (128 + c % 64)] else if c < 65536 then [UInt8.ofNat (224 + c / 4096),UInt8.ofNat (128 + c / 64 % 64),UInt8.ofNat (128 + c % 64)] else [UInt8.ofNat (240 + c / 262144),UInt8.ofNat (128 + c / 4096 % 64),UInt8.ofNat (128 + c / 64 % 64),UInt8.ofNat (128 + c % 64)]:=by
  intro c hc
  have hv : Utf8.valid (c : Int) = true:=by
   unfold scB at hc; unfold Utf8.valid;have:=of_decide_eq_true hc
   simp; omega
  unfold Utf8.encode;simp only [hv,if_true,Int.toNat_natCast]
  repeat' split
  all_goals first | rfl | omega
 have fin : ∀ (sz v : Nat),fit l = sz -> valL l = v -> sz <= l.length -> scB v = true -> (Utf8.encode v).data.toList = (List.range sz).map (fun j=>UInt8.ofNat (bt l j)) -> (v = 65533 -> bt l 0 = 239 ∧ bt l 1 = 191 ∧ bt l 2 = 189 ∧ 3 <= l.length) ->
  scB (valL l) = true ∧ (Utf8.encode (valL l)).data.toList = l.take (fit l) ∧ fit l <= l.length ∧ (valL l = 65533 -> signB l = true):=by
  intro sz v e1 e2 e3 e4 e5 e6
  rw [e1,e2];refine ⟨e4,?_,e3,fun hv=>?_⟩
  ·rw [e5,take_bt l sz e3]; exact List.map_congr_left fun j _=>ofNat_bt l j
  ·obtain ⟨a,b,c,d⟩:=e6 hv
   unfold signB;rw [take_bt l 3 d];simp only [List.range,List.range.loop,List.map_cons,List.map_nil]
   rw [<- ofNat_bt,<- ofNat_bt,<- ofNat_bt,a,b,c]; rfl
 have hsc : ∀ c : Nat,(c < 55296 ∨ (57343 < c ∧ c <= 1114111)) -> scB c = true:=fun c hc=>by unfold scB; rw [decide_eq_true_iff]; omega
 rcases rowB_cases (bt l 0) (bt_lt l 0) with ⟨c,e⟩ | ⟨c,c',e⟩ | ⟨c,e⟩ | ⟨c,c',e⟩ | ⟨c,e⟩ | ⟨c,c',e⟩ | ⟨c,e⟩ | ⟨c,c',e⟩ | ⟨c,e⟩ | ⟨c,e⟩
 all_goals
  rw [e] at hf g1
  simp only at hf g1
 ·have hv : valL l = bt l 0:=by unfold valL; rw [e]; rfl
  have hs:=hsc (bt l 0) (by omega)
  refine fin 1 _ hf.symm hv (by omega) hs ?_ (by omega)
  rw [enc _ hs,if_pos (by omega)]; rfl
 ·have hv : valL l = (bt l 0 - 192) * 64 + (bt l 1 - 128):=by unfold valL; rw [e]; rfl
  have k1:=g1 (fg 1 (by omega) (by omega))
  have hs:=hsc ((bt l 0 - 192) * 64 + (bt l 1 - 128)) (by omega)
  refine fin 2 _ hf.symm hv (by omega) hs ?_ (by omega)
  rw [enc _ hs,if_neg (by omega),if_pos (by omega)];simp only [List.range,List.range.loop,List.map_cons,List.map_nil]
  rw [show 192 + ((bt l 0 - 192) * 64 + (bt l 1 - 128)) / 64 = bt l 0 by omega,show 128 + ((bt l 0 - 192) * 64 + (bt l 1 - 128)) % 64 = bt l 1 by omega]
 iterate 4
  ·have hv : valL l = ((bt l 0 - 224) * 64 + (bt l 1 - 128)) * 64 + (bt l 2 - 128):=by unfold valL; rw [e]; rfl
   have k1:=g1 (fg 1 (by omega) (by omega))
   have k2:=g2 (fg 2 (by omega) (by omega))
   have hs:=hsc (((bt l 0 - 224) * 64 + (bt l 1 - 128)) * 64 + (bt l 2 - 128)) (by omega)
   refine fin 3 _ hf.symm hv (by omega) hs ?_ (by omega)
   rw [enc _ hs,if_neg (by omega),if_neg (by omega),if_pos (by omega)];simp only [List.range,List.range.loop,List.map_cons,List.map_nil]
   rw [show 224 + (((bt l 0 - 224) * 64 + (bt l 1 - 128)) * 64 + (bt l 2 - 128)) / 4096 = bt l 0 by omega,show 128 + (((bt l 0 - 224) * 64 + (bt l 1 - 128)) * 64 + (bt l 2 - 128)) / 64 % 64 = bt l 1 by omega,show 128 + (((bt l 0 - 224) * 64 + (bt l 1 - 128)) * 64 + (bt l 2 - 128)) % 64 = bt l 2 by omega]
 iterate 3
  ·have hv : valL l = (((bt l 0 - 240) * 64 + (bt l 1 - 128)) * 64 + (bt l 2 - 128)) * 64 + (bt l 3 - 128):=by unfold valL; rw [e]; rfl
   have k1:=g1 (fg 1 (by omega) (by omega))
   have k2:=g2 (fg 2 (by omega) (by omega))
   have k3:=g3 (fg 3 (by omega) (by omega))
   have hs:=hsc ((((bt l 0 - 240) * 64 + (bt l 1 - 128)) * 64 + (bt l 2 - 128)) * 64 + (bt l 3 - 128)) (by omega)
   refine fin 4 _ hf.symm hv (by omega) hs ?_ (by omega)
   rw [enc _ hs,if_neg (by omega),if_neg (by omega),if_neg (by omega)];simp only [List.range,List.range.loop,List.map_cons,List.map_nil]
   rw [show 240 + ((((bt l 0 - 240) * 64 + (bt l 1 - 128)) * 64 + (bt l 2 - 128)) * 64 + (bt l 3 - 128)) / 262144 = bt l 0 by omega,show 128 + ((((bt l 0 - 240) * 64 + (bt l 1 - 128)) * 64 + (bt l 2 - 128)) * 64 + (bt l 3 - 128)) / 4096 % 64 = bt l 1 by omega,show 128 + ((((bt l 0 - 240) * 64 + (bt l 1 - 128)) * 64 + (bt l 2 - 128)) * 64 + (bt l 3 - 128)) / 64 % 64 = bt l 2 by omega,show 128 + ((((bt l 0 - 240) * 64 + (bt l 1 - 128)) * 64 + (bt l 2 - 128)) * 64 + (bt l 3 - 128)) % 64 = bt l 3 by omega]
 ·omega
theorem fit_le (l : List UInt8) (h : l ≠ []) : fit l <= l.length:=by
 obtain ⟨f1,f4,fg,fn⟩:=fit_spec l
 by_cases h1 : fit l = 1
 ·rw [h1]; cases l with | nil=>exact absurd rfl h | cons a b=>simp
 ·have g:=fg (fit l - 1) (by omega) (by omega)
  unfold goOn at g; omega
theorem drop_ne (s : ByteArray) (i : Nat) (h : i < s.size) : s.data.toList.drop i ≠ []:=by intro e; have:=congrArg List.length e; simp at this; omega
theorem fault_at (s : ByteArray) (i : Nat) (w : World) (h : i < s.size) :
 Calls Tryz.prog 204 #[.string s,.int .i64 i,.int .i32 ((Utf8.decode s i).1 : Nat)] w fun e w'=>e = .returned (.bool (!okL (s.data.toList.drop i))) ∧ w' = w:=by
 rw [decode_eq s i h];by_cases ho : okL (s.data.toList.drop i) = true
 ·obtain ⟨_,_,_,hsg⟩:=ok_facts _ ho
  rw [if_pos ho,ho];by_cases hv : valL (s.data.toList.drop i) = 65533
  ·have:=fault_is s i w (by omega)
   rw [hsg hv] at this;rw [hv]; exact this
  ·exact fault_no s i _ w (by simp only; omega)
 ·have ho' : okL (s.data.toList.drop i) = false:=by simpa using ho
  have hs : signB (s.data.toList.drop i) = false:=by
   cases e : signB (s.data.toList.drop i) with
   | false=>rfl
   | true=>exact absurd (sign_ok _ e) ho
  rw [if_neg ho,ho'];have:=fault_is s i w (by omega)
  rw [hs] at this;exact this
def faultF (l : List UInt8) : Nat -> Nat -> Int
 | 0,_=>-1
 | f + 1,i=>if i < l.length then (if okL (l.drop i) then faultF l f (i + fit (l.drop i)) else i) else -1
def faultL (l : List UInt8) : Int:=faultF l l.length 0
theorem faultF_end (l : List UInt8) (f i : Nat) (h : ¬ i < l.length) : faultF l f i = -1:=by
 cases f with
 | zero=>rfl
 | succ f=>simp [faultF,h]
def It (B : Nat) (W0 : World) (s : ByteArray) (pos : Nat) (w : World) : Prop:=w.heap[B]? = some (.stringIter s pos) ∧ Below B W0 w
theorem It.start (w : World) (s : ByteArray) : It w.heap.size w s 0 (w.iter s 0):=⟨World.iter_heap w s 0,(Below.refl _ _).alloc (Nat.le_refl _) _⟩
theorem It.next {B : Nat} {W0 w : World} {s : ByteArray} {pos : Nat} (h : It B W0 s pos w) (p : Nat) : It B W0 s p (w.iterAt B s p):=⟨Lib.iterAt_heap w B s pos p h.1,Lib.below_iterAt h.2 (Nat.le_refl _) s p⟩
def countF (l : List UInt8) : Nat -> Nat -> Nat
 | 0,_=>0
 | f + 1,i=>if i < l.length then 1 + countF l f (i + fit (l.drop i)) else 0
def countL (l : List UInt8) : Nat:=countF l l.length 0
theorem countF_end (l : List UInt8) (f i : Nat) (h : ¬ i < l.length) : countF l f i = 0:=by
 cases f with
 | zero=>rfl
 | succ f=>simp [countF,h]
def pv (l : List UInt8) (base : Int) : Nat -> Int
 | 0=>bt l 0 - base
 | k + 1=>pv l base k * 64 + bt l (k + 1) - 128
theorem pv_bd (l : List UInt8) (base : Int) (h0 : 192 <= base) (h1 : base <= 240) (k : Nat) (hk : k <= 3) : -100000000 <= pv l base k ∧ pv l base k <= 100000000:=by
 have b0:=bt_lt l 0
 have b1:=bt_lt l 1
 have b2:=bt_lt l 2
 have b3:=bt_lt l 3
 have c : k = 0 ∨ k = 1 ∨ k = 2 ∨ k = 3:=by omega
 rcases c with rfl | rfl | rfl | rfl <;> simp only [pv,Nat.zero_add,Nat.reduceAdd] <;> omega
def baseI (n : Nat) : Int:=if n = 3 then 224 else if n = 4 then 240 else 192
def valS (s : ByteArray) : Int:=if s.size = 1 then bt s.data.toList 0 else pv s.data.toList (baseI s.size) (s.size - 1)
theorem value_224 (s : ByteArray) (w : World) (h1 : 2 <= s.size) (h4 : s.size <= 4) (q3 : ((s.size : Int) == 3) = true) (q4 : ((s.size : Int) == 4) = false) (H : Hid (valS s = pv s.data.toList 224 (s.size - 1))) :
 Calls Tryz.prog 218 #[.string s] w fun e w'=>e = .returned (.int .i64 (valS s)) ∧ w' = w:=by
 have HB0 : Hid (bt s.data.toList 0 = s[0].toNat):=bt_at s 0 (by omega)
 have hbl:=byte_le s[0]
 have e1' : ((s.size : Int) == 1) = false:=by rw [beq_eq_false_iff_ne]; omega
 have PB:=fun k hk=>pv_bd s.data.toList 224 (by omega) (by omega) k hk
 have HPB : Hid (∀ k,k <= 3 -> -100000000 <= pv s.data.toList 224 k ∧ pv s.data.toList 224 k <= 100000000):=PB
 clear PB;have hst : Hid ((s[0].toNat : Int) - 224 = pv s.data.toList 224 0):=by show (s[0].toNat : Int) - 224 = _; unfold pv; rw [HB0.out]
 go_enter Tryz.func218,Tryz.ntmps218
 go_wp2
 go_loop [3,4] (fun v i=>∃ k : Nat,k + 1 <= s.size ∧ i = .int .i64 ((k + 1 : Nat) : Int) ∧ v = .int .i64 (pv s.data.toList 224 k)) (fun _ i=>s.size - (intOf i).toNat)
 case atStart=>exact ⟨0,by omega,rfl,int_eq hst.out⟩
 case round =>
  obtain ⟨k,hk,rfl,rfl⟩:=hrel
  have bd:=HPB.out k (by omega)
  have bd1:=bd.1
  have bd2:=bd.2
  clear bd;by_cases hlt : k + 1 < s.size
  ·have hb1:=byte_le s[k + 1]
   have HS : Hid (pv s.data.toList 224 (k + 1) = pv s.data.toList 224 k * 64 + s[k + 1].toNat - 128):=by show _ = _; simp only [pv]; rw [bt_at s (k + 1) hlt]
   go_wp2
   go_round
   case rel=>exact ⟨k + 1,by omega,by go_num,int_eq HS.out.symm⟩
   case measure=>simp [intOf]; omega
  ·have HE : Hid (s.size - 1 = k):=by show _ = _; omega
   go_wp2
   go_ret;exact ⟨ret_int (by rw [H.out,HE.out]),rfl⟩
theorem value_240 (s : ByteArray) (w : World) (h1 : 2 <= s.size) (h4 : s.size <= 4) (q3 : ((s.size : Int) == 3) = false) (q4 : ((s.size : Int) == 4) = true) (H : Hid (valS s = pv s.data.toList 240 (s.size - 1))) :
 Calls Tryz.prog 218 #[.string s] w fun e w'=>e = .returned (.int .i64 (valS s)) ∧ w' = w:=by
 have HB0 : Hid (bt s.data.toList 0 = s[0].toNat):=bt_at s 0 (by omega)
 have hbl:=byte_le s[0]
 have e1' : ((s.size : Int) == 1) = false:=by rw [beq_eq_false_iff_ne]; omega
 have PB:=fun k hk=>pv_bd s.data.toList 240 (by omega) (by omega) k hk
 have HPB : Hid (∀ k,k <= 3 -> -100000000 <= pv s.data.toList 240 k ∧ pv s.data.toList 240 k <= 100000000):=PB
 clear PB;have hst : Hid ((s[0].toNat : Int) - 240 = pv s.data.toList 240 0):=by show (s[0].toNat : Int) - 240 = _; unfold pv; rw [HB0.out]
 go_enter Tryz.func218,Tryz.ntmps218
 go_wp2
 go_loop [3,4] (fun v i=>∃ k : Nat,k + 1 <= s.size ∧ i = .int .i64 ((k + 1 : Nat) : Int) ∧ v = .int .i64 (pv s.data.toList 240 k)) (fun _ i=>s.size - (intOf i).toNat)
 case atStart=>exact ⟨0,by omega,rfl,int_eq hst.out⟩
 case round =>
  obtain ⟨k,hk,rfl,rfl⟩:=hrel
  have bd:=HPB.out k (by omega)
  have bd1:=bd.1
  have bd2:=bd.2
  clear bd;by_cases hlt : k + 1 < s.size
  ·have hb1:=byte_le s[k + 1]
   have HS : Hid (pv s.data.toList 240 (k + 1) = pv s.data.toList 240 k * 64 + s[k + 1].toNat - 128):=by show _ = _; simp only [pv]; rw [bt_at s (k + 1) hlt]
   go_wp2
   go_round
   case rel=>exact ⟨k + 1,by omega,by go_num,int_eq HS.out.symm⟩
   case measure=>simp [intOf]; omega
  ·have HE : Hid (s.size - 1 = k):=by show _ = _; omega
   go_wp2
   go_ret;exact ⟨ret_int (by rw [H.out,HE.out]),rfl⟩
theorem value_192 (s : ByteArray) (w : World) (h1 : 2 <= s.size) (h4 : s.size <= 4) (q3 : ((s.size : Int) == 3) = false) (q4 : ((s.size : Int) == 4) = false) (H : Hid (valS s = pv s.data.toList 192 (s.size - 1))) :
 Calls Tryz.prog 218 #[.string s] w fun e w'=>e = .returned (.int .i64 (valS s)) ∧ w' = w:=by
 have HB0 : Hid (bt s.data.toList 0 = s[0].toNat):=bt_at s 0 (by omega)
 have hbl:=byte_le s[0]
 have e1' : ((s.size : Int) == 1) = false:=by rw [beq_eq_false_iff_ne]; omega
 have PB:=fun k hk=>pv_bd s.data.toList 192 (by omega) (by omega) k hk
 have HPB : Hid (∀ k,k <= 3 -> -100000000 <= pv s.data.toList 192 k ∧ pv s.data.toList 192 k <= 100000000):=PB
 clear PB;have hst : Hid ((s[0].toNat : Int) - 192 = pv s.data.toList 192 0):=by show (s[0].toNat : Int) - 192 = _; unfold pv; rw [HB0.out]
 go_enter Tryz.func218,Tryz.ntmps218
 go_wp2
 go_loop [3,4] (fun v i=>∃ k : Nat,k + 1 <= s.size ∧ i = .int .i64 ((k + 1 : Nat) : Int) ∧ v = .int .i64 (pv s.data.toList 192 k)) (fun _ i=>s.size - (intOf i).toNat)
 case atStart=>exact ⟨0,by omega,rfl,int_eq hst.out⟩
 case round =>
  obtain ⟨k,hk,rfl,rfl⟩:=hrel
  have bd:=HPB.out k (by omega)
  have bd1:=bd.1
  have bd2:=bd.2
  clear bd;by_cases hlt : k + 1 < s.size
  ·have hb1:=byte_le s[k + 1]
   have HS : Hid (pv s.data.toList 192 (k + 1) = pv s.data.toList 192 k * 64 + s[k + 1].toNat - 128):=by show _ = _; simp only [pv]; rw [bt_at s (k + 1) hlt]
   go_wp2
   go_round
   case rel=>exact ⟨k + 1,by omega,by go_num,int_eq HS.out.symm⟩
   case measure=>simp [intOf]; omega
  ·have HE : Hid (s.size - 1 = k):=by show _ = _; omega
   go_wp2
   go_ret;exact ⟨ret_int (by rw [H.out,HE.out]),rfl⟩
theorem value_any (s : ByteArray) (w : World) (h1 : 1 <= s.size) (h4 : s.size <= 4) :
 Calls Tryz.prog 218 #[.string s] w fun e w'=>e = .returned (.int .i64 (valS s)) ∧ w' = w:=by
 by_cases e1 : s.size = 1
 ·have HB0 : Hid (bt s.data.toList 0 = s[0].toNat):=bt_at s 0 (by omega)
  have hbl:=byte_le s[0]
  have H : Hid (valS s = s[0].toNat):=by show _ = _; unfold valS; rw [if_pos e1,HB0.out]
  have e1' : ((s.size : Int) == 1) = true:=by simp [e1]
  clear e1;go_enter Tryz.func218,Tryz.ntmps218
  go_wp2
  go_ret;exact ⟨ret_int H.out.symm,rfl⟩
 ·have hv : valS s = pv s.data.toList (baseI s.size) (s.size - 1):=by unfold valS; rw [if_neg e1]
  by_cases q3 : s.size = 3
  ·exact value_224 s w (by omega) h4 (by simp [q3]) (by simp [q3]) (by show _ = _; rw [hv]; unfold baseI; rw [if_pos q3])
  ·by_cases q4 : s.size = 4
   ·exact value_240 s w (by omega) h4 (by rw [beq_eq_false_iff_ne]; omega) (by simp [q4]) (by show _ = _; rw [hv]; unfold baseI; rw [if_neg q3,if_pos q4])
   ·exact value_192 s w (by omega) h4 (by rw [beq_eq_false_iff_ne]; omega) (by rw [beq_eq_false_iff_ne]; omega) (by show _ = _; rw [hv]; unfold baseI; rw [if_neg q3,if_neg q4])
theorem encode_cases (r : Int) (h : scB r = true) :
 (r < 128 -> encS r = ⟨#[UInt8.ofNat r.toNat]⟩) ∧ (128 <= r -> r < 2048 -> encS r = ⟨#[UInt8.ofNat (192 + r / 64).toNat,UInt8.ofNat (128 + r % 64).toNat]⟩) ∧
 (2048 <= r -> r < 65536 -> encS r = ⟨#[UInt8.ofNat (224 + r / 4096).toNat,UInt8.ofNat (128 + r / 64 % 64).toNat,UInt8.ofNat (128 + r % 64).toNat]⟩) ∧
 (65536 <= r -> encS r = ⟨#[UInt8.ofNat (240 + r / 262144).toNat,UInt8.ofNat (128 + r / 4096 % 64).toNat,UInt8.ofNat (128 + r / 64 % 64).toNat,UInt8.ofNat (128 + r % 64).toNat]⟩):=by
 have hr : (0 <= r ∧ r < 55296) ∨ (57343 < r ∧ r <= 1114111):=of_decide_eq_true h
 have hv : Utf8.valid r = true:=by unfold Utf8.valid; simp; omega
 unfold encS;rw [if_pos h];unfold Utf8.encode;simp only [hv,if_true]
 refine ⟨fun a=>?_,fun a b=>?_,fun a b=>?_,fun a=>?_⟩
 ·rw [if_pos (by omega)]
 ·rw [if_neg (by omega),if_pos (by omega)];rw [show (192 + r / 64).toNat = 0xC0 + r.toNat / 64 by omega,show (128 + r % 64).toNat = 0x80 + r.toNat % 64 by omega]
 ·rw [if_neg (by omega),if_neg (by omega),if_pos (by omega)];rw [show (224 + r / 4096).toNat = 0xE0 + r.toNat / 4096 by omega,show (128 + r / 64 % 64).toNat = 0x80 + r.toNat / 64 % 64 by omega,show (128 + r % 64).toNat = 0x80 + r.toNat % 64 by omega]
 ·rw [if_neg (by omega),if_neg (by omega),if_neg (by omega)];rw [show (240 + r / 262144).toNat = 0xF0 + r.toNat / 262144 by omega,show (128 + r / 4096 % 64).toNat = 0x80 + r.toNat / 4096 % 64 by omega,show (128 + r / 64 % 64).toNat = 0x80 + r.toNat / 64 % 64 by omega,show (128 + r % 64).toNat = 0x80 + r.toNat % 64 by omega]
theorem bt_cons (x : UInt8) (l : List UInt8) : bt (x :: l) 0 = x.toNat:=rfl
theorem ofNat_toNat (v : Int) (h0 : 0 <= v) (h1 : v < 256) : (UInt8.ofNat v.toNat).toNat = v.toNat:=by rw [UInt8.toNat_ofNat']; omega
theorem enc_ok (r : Int) (h : scB r = true) (t : List UInt8) : okL ((encS r).data.toList ++ t) = true ∧ (valL ((encS r).data.toList ++ t) : Int) = r ∧ fit ((encS r).data.toList ++ t) = (encS r).size:=by
 have hr : (0 <= r ∧ r < 55296) ∨ (57343 < r ∧ r <= 1114111):=of_decide_eq_true h
 obtain ⟨E1,E2,E3,E4⟩:=encode_cases r h
 have q1 : r / 64 / 64 = r / 4096:=by omega
 have q2 : r / 4096 / 64 = r / 262144:=by omega
 have fin : ∀ (l : List UInt8) (sz : Nat),(rowB (bt l 0)).1 = sz -> 1 <= sz -> sz <= l.length -> (∀ j,1 <= j -> j < sz -> goOn l j) -> okL l = true ∧ fit l = sz:=by
  intro l sz h1 h2 h3 h4
  have hf : fit l = sz:=fit_eq l sz h2 h4 (fun g=>by unfold goOn at g; omega)
  exact ⟨(okL_iff l).2 ⟨by intro e; subst e; simp at h3; omega,by rw [hf,h1]⟩,hf⟩
 by_cases h1 : r < 128
 ·rw [E1 h1];have b0:=ofNat_toNat r (by omega) (by omega)
  generalize UInt8.ofNat r.toNat = x0 at *;show okL (x0 :: t) = true ∧ (valL (x0 :: t) : Int) = r ∧ fit (x0 :: t) = 1
  have hrow : rowB (bt (x0 :: t) 0) = (1,0,0):=by rw [bt_cons,b0]; unfold rowB; rw [if_pos (by omega)]
  obtain ⟨a,b⟩:=fin (x0 :: t) 1 (by rw [hrow]) (by omega) (by simp) (fun j _ _=>by omega)
  refine ⟨a,?_,b⟩
  unfold valL; rw [hrow,if_pos rfl,bt_cons,b0]; omega
 ·by_cases h2 : r < 2048
  ·rw [E2 (by omega) h2];have b0:=ofNat_toNat (192 + r / 64) (by omega) (by omega)
   have b1:=ofNat_toNat (128 + r % 64) (by omega) (by omega)
   generalize UInt8.ofNat (192 + r / 64).toNat = x0 at *;generalize UInt8.ofNat (128 + r % 64).toNat = x1 at *;show okL (x0 :: x1 :: t) = true ∧ (valL (x0 :: x1 :: t) : Int) = r ∧ fit (x0 :: x1 :: t) = 2
   have hrow : rowB (bt (x0 :: x1 :: t) 0) = (2,128,191):=by rw [bt_cons,b0]; unfold rowB; rw [if_neg (by omega),if_pos (by omega)]
   have e1 : bt (x0 :: x1 :: t) 1 = x1.toNat:=rfl
   obtain ⟨a,b⟩:=fin (x0 :: x1 :: t) 2 (by rw [hrow]) (by omega) (by simp) (fun j j1 j2=>by
    have : j = 1:=by omega
    subst this;unfold goOn; rw [hrow,e1,b1]; simp; omega)
   refine ⟨a,?_,b⟩
   unfold valL; rw [hrow,if_neg (by decide),if_pos rfl,bt_cons,e1,b0,b1]; omega
  ·by_cases h3 : r < 65536
   ·rw [E3 (by omega) h3];have b0:=ofNat_toNat (224 + r / 4096) (by omega) (by omega)
    have b1:=ofNat_toNat (128 + r / 64 % 64) (by omega) (by omega)
    have b2:=ofNat_toNat (128 + r % 64) (by omega) (by omega)
    generalize UInt8.ofNat (224 + r / 4096).toNat = x0 at *;generalize UInt8.ofNat (128 + r / 64 % 64).toNat = x1 at *;generalize UInt8.ofNat (128 + r % 64).toNat = x2 at *
    show okL (x0 :: x1 :: x2 :: t) = true ∧ (valL (x0 :: x1 :: x2 :: t) : Int) = r ∧ fit (x0 :: x1 :: x2 :: t) = 3
    have e0 : bt (x0 :: x1 :: x2 :: t) 0 = x0.toNat:=rfl
    have e1 : bt (x0 :: x1 :: x2 :: t) 1 = x1.toNat:=rfl
    have e2 : bt (x0 :: x1 :: x2 :: t) 2 = x2.toNat:=rfl
    have hrow:=rowB_cases x0.toNat (by have:=x0.toNat_lt; omega)
    have hsz : (rowB x0.toNat).1 = 3 ∧ (rowB x0.toNat).2.1 <= x1.toNat ∧ x1.toNat <= (rowB x0.toNat).2.2:=by rcases hrow with ⟨c,e⟩ | ⟨c,c',e⟩ | ⟨c,e⟩ | ⟨c,c',e⟩ | ⟨c,e⟩ | ⟨c,c',e⟩ | ⟨c,e⟩ | ⟨c,c',e⟩ | ⟨c,e⟩ | ⟨c,e⟩ <;> rw [e] <;> first | (exfalso; omega) | exact ⟨rfl,by simp only; omega,by simp only; omega⟩
    obtain ⟨a,b⟩:=fin (x0 :: x1 :: x2 :: t) 3 (by rw [e0]; exact hsz.1) (by omega) (by simp) (fun j j1 j2=>by
     have : j = 1 ∨ j = 2:=by omega
     rcases this with rfl | rfl
     ·unfold goOn; rw [e0,e1,hsz.1]; simp; omega
     ·unfold goOn; rw [e0,e2,hsz.1]; simp; omega)
    refine ⟨a,?_,b⟩
    unfold valL; rw [e0,e1,e2,hsz.1,if_neg (by decide),if_neg (by decide),if_pos rfl,b0,b1,b2]; omega
   ·rw [E4 (by omega)];have b0:=ofNat_toNat (240 + r / 262144) (by omega) (by omega)
    have b1:=ofNat_toNat (128 + r / 4096 % 64) (by omega) (by omega)
    have b2:=ofNat_toNat (128 + r / 64 % 64) (by omega) (by omega)
    have b3:=ofNat_toNat (128 + r % 64) (by omega) (by omega)
    generalize UInt8.ofNat (240 + r / 262144).toNat = x0 at *;generalize UInt8.ofNat (128 + r / 4096 % 64).toNat = x1 at *;generalize UInt8.ofNat (128 + r / 64 % 64).toNat = x2 at *
    generalize UInt8.ofNat (128 + r % 64).toNat = x3 at *;show okL (x0 :: x1 :: x2 :: x3 :: t) = true ∧ (valL (x0 :: x1 :: x2 :: x3 :: t) : Int) = r ∧ fit (x0 :: x1 :: x2 :: x3 :: t) = 4
    have e0 : bt (x0 :: x1 :: x2 :: x3 :: t) 0 = x0.toNat:=rfl
    have e1 : bt (x0 :: x1 :: x2 :: x3 :: t) 1 = x1.toNat:=rfl
    have e2 : bt (x0 :: x1 :: x2 :: x3 :: t) 2 = x2.toNat:=rfl
    have e3 : bt (x0 :: x1 :: x2 :: x3 :: t) 3 = x3.toNat:=rfl
    have hrow:=rowB_cases x0.toNat (by have:=x0.toNat_lt; omega)
    have hsz : (rowB x0.toNat).1 = 4 ∧ (rowB x0.toNat).2.1 <= x1.toNat ∧ x1.toNat <= (rowB x0.toNat).2.2:=by rcases hrow with ⟨c,e⟩ | ⟨c,c',e⟩ | ⟨c,e⟩ | ⟨c,c',e⟩ | ⟨c,e⟩ | ⟨c,c',e⟩ | ⟨c,e⟩ | ⟨c,c',e⟩ | ⟨c,e⟩ | ⟨c,e⟩ <;> rw [e] <;> first | (exfalso; omega) | exact ⟨rfl,by simp only; omega,by simp only; omega⟩
    obtain ⟨a,b⟩:=fin (x0 :: x1 :: x2 :: x3 :: t) 4 (by rw [e0]; exact hsz.1) (by omega) (by simp) (fun j j1 j2=>by
     have : j = 1 ∨ j = 2 ∨ j = 3:=by omega
     rcases this with rfl | rfl | rfl
     ·unfold goOn; rw [e0,e1,hsz.1]; simp; omega
     ·unfold goOn; rw [e0,e2,hsz.1]; simp; omega
     ·unfold goOn; rw [e0,e3,hsz.1]; simp; omega)
    refine ⟨a,?_,b⟩
    unfold valL; rw [e0,e1,e2,e3,hsz.1,if_neg (by decide),if_neg (by decide),if_neg (by decide),b0,b1,b2,b3]; omega
theorem bt_append (l t : List UInt8) (j : Nat) (h : j < l.length) : bt (l ++ t) j = bt l j:=by unfold bt; rw [List.getD_eq_getElem?_getD,List.getD_eq_getElem?_getD,List.getElem?_append_left h]
theorem ok_append (l t : List UInt8) (h : okL l = true) : okL (l ++ t) = true ∧ fit (l ++ t) = fit l ∧ valL (l ++ t) = valL l:=by
 obtain ⟨hne,hf⟩:=(okL_iff l).1 h
 obtain ⟨f1,f4,fg,fn⟩:=fit_spec l
 have fl:=fit_le l hne
 have h0 : bt (l ++ t) 0 = bt l 0:=bt_append l t 0 (by omega)
 have hfit : fit (l ++ t) = fit l:=by
  refine fit_eq _ _ f1 (fun j a b=>?_) (fun g=>?_)
  ·have g:=fg j a b
   unfold goOn at g ⊢
   rw [h0,bt_append l t j (by omega),List.length_append];omega
  ·unfold goOn at g; rw [h0] at g; omega
 refine ⟨(okL_iff _).2 ⟨by simp [hne],by rw [h0,hf,hfit]⟩,hfit,?_⟩
 unfold valL;rw [h0,hf];by_cases c1 : fit l = 1
 ·rw [if_pos c1,if_pos c1]
 ·by_cases c2 : fit l = 2
  ·rw [if_neg c1,if_pos c2,if_neg c1,if_pos c2,bt_append l t 1 (by omega)]
  ·by_cases c3 : fit l = 3
   ·rw [if_neg c1,if_neg c2,if_pos c3,if_neg c1,if_neg c2,if_pos c3,bt_append l t 1 (by omega),bt_append l t 2 (by omega)]
   ·rw [if_neg c1,if_neg c2,if_neg c3,if_neg c1,if_neg c2,if_neg c3,bt_append l t 1 (by omega),bt_append l t 2 (by omega),bt_append l t 3 (by omega)]
theorem faultF_fuel (l : List UInt8) : ∀ f f' i,l.length <= i + f -> l.length <= i + f' -> faultF l f i = faultF l f' i
 | 0,f',i,h,_=>by rw [faultF_end l f' i (by omega)]; rfl
 | f + 1,0,i,_,h'=>by rw [faultF_end l (f + 1) i (by omega)]; rfl
 | f + 1,f' + 1,i,h,h'=>by
  simp only [faultF]
  by_cases hi : i < l.length
  ·have f1:=(fit_spec (l.drop i)).1
   rw [if_pos hi,if_pos hi,faultF_fuel l f f' (i + fit (l.drop i)) (by omega) (by omega)]
  ·rw [if_neg hi,if_neg hi]
theorem countF_fuel (l : List UInt8) : ∀ f f' i,l.length <= i + f -> l.length <= i + f' -> countF l f i = countF l f' i
 | 0,f',i,h,_=>by rw [countF_end l f' i (by omega)]; rfl
 | f + 1,0,i,_,h'=>by rw [countF_end l (f + 1) i (by omega)]; rfl
 | f + 1,f' + 1,i,h,h'=>by
  simp only [countF]
  by_cases hi : i < l.length
  ·have f1:=(fit_spec (l.drop i)).1
   rw [if_pos hi,if_pos hi,countF_fuel l f f' (i + fit (l.drop i)) (by omega) (by omega)]
  ·rw [if_neg hi,if_neg hi]
theorem drop_app (a b : List UInt8) (i : Nat) : (a ++ b).drop (a.length + i) = b.drop i:=by simp
def shI (n : Nat) (x : Int) : Int:=if 0 <= x then x + n else -1
theorem faultF_shift (a b : List UInt8) : ∀ f i,faultF (a ++ b) f (a.length + i) = shI a.length (faultF b f i)
 | 0,i=>by simp [faultF,shI]
 | f + 1,i=>by
  simp only [faultF]
  rw [drop_app,List.length_append];by_cases hi : i < b.length
  ·rw [if_pos (by omega),if_pos hi];by_cases ho : okL (b.drop i) = true
   ·rw [if_pos ho,if_pos ho,Nat.add_assoc,faultF_shift a b f]
   ·rw [if_neg ho,if_neg ho]; unfold shI; rw [if_pos (by omega)]; omega
  ·rw [if_neg (by omega),if_neg hi]; simp [shI]
theorem countF_shift (a b : List UInt8) : ∀ f i,countF (a ++ b) f (a.length + i) = countF b f i
 | 0,i=>by simp [countF]
 | f + 1,i=>by
  simp only [countF]
  rw [drop_app,List.length_append];by_cases hi : i < b.length
  ·rw [if_pos (by omega),if_pos hi,Nat.add_assoc,countF_shift a b f]
  ·rw [if_neg (by omega),if_neg hi]
theorem through (a b : List UInt8) : ∀ f i,i <= a.length -> a.length <= i + f -> faultF a f i = -1 -> faultF (a ++ b) (f + b.length) i = faultF (a ++ b) b.length a.length ∧ countF (a ++ b) (f + b.length) i = countF a f i + countF (a ++ b) b.length a.length
 | 0,i,h1,h2,_=>by
  have : i = a.length:=by omega
  subst this;simp [countF]
 | f + 1,i,h1,h2,h3=>by
  by_cases hi : i < a.length
  ·simp only [faultF] at h3
   rw [if_pos hi] at h3;have hd : (a ++ b).drop i = a.drop i ++ b:=List.drop_append_of_le_length (by omega)
   by_cases ho : okL (a.drop i) = true
   ·rw [if_pos ho] at h3;obtain ⟨o1,o2,_⟩:=ok_append (a.drop i) b ho
    have f1:=(fit_spec (a.drop i)).1
    have fl:=fit_le (a.drop i) ((okL_iff _).1 ho).1
    rw [List.length_drop] at fl;obtain ⟨q1,q2⟩:=through a b f (i + fit (a.drop i)) (by omega) (by omega) h3
    have e : f + 1 + b.length = (f + b.length) + 1:=by omega
    rw [e];simp only [faultF,countF]
    rw [hd,o1,o2,List.length_append,if_pos (by omega),if_pos rfl,if_pos (by omega),if_pos hi,q1,q2];exact ⟨rfl,by omega⟩
   ·rw [if_neg ho] at h3;omega
  ·have hil : i = a.length:=by omega
   subst hil;rw [countF_end a (f + 1) a.length (by omega),Nat.zero_add];exact ⟨faultF_fuel _ _ _ _ (by simp) (by simp),countF_fuel _ _ _ _ (by simp) (by simp)⟩
theorem faultF_neg (l : List UInt8) : ∀ f i,faultF l f i < 0 -> faultF l f i = -1
 | 0,i,_=>rfl
 | f + 1,i,h=>by
  simp only [faultF] at h ⊢
  by_cases hi : i < l.length
  ·rw [if_pos hi] at h ⊢
   by_cases ho : okL (l.drop i) = true
   ·rw [if_pos ho] at h ⊢; exact faultF_neg l f _ h
   ·rw [if_neg ho] at h; omega
  ·rw [if_neg hi]
theorem joins (a b : List UInt8) (h : faultL a < 0) : faultL (a ++ b) = (if 0 <= faultL b then faultL b + a.length else faultL b) ∧ countL (a ++ b) = countL a + countL b:=by
 unfold faultL at h;have h1:=faultF_neg _ _ _ h
 obtain ⟨q1,q2⟩:=through a b a.length 0 (by omega) (by omega) h1
 unfold faultL countL;rw [List.length_append,q1,q2];have s1:=faultF_shift a b b.length 0
 have s2:=countF_shift a b b.length 0
 rw [Nat.add_zero] at s1 s2
 rw [s1,s2];refine ⟨?_,rfl⟩
 unfold shI;by_cases hb : 0 <= faultF b b.length 0
 ·rw [if_pos hb,if_pos hb]
 ·rw [if_neg hb,if_neg hb,faultF_neg b b.length 0 (by omega)]
end Go.Proofs.YtkhipgcgcbhjoaaGreat.Ut
