import Derived.Test.YtkhipgcgcbhjoaaGreatLa16
import Derived.Lib.BufSteps
import Derived.Lib.BufferRead
set_option maxHeartbeats 1000000
namespace Go.Proofs.YtkhipgcgcbhjoaaGreat.Oc
open Go.RowKit
def u8s (l : List UInt8) : List Value:=l.map fun x=>.int .u8 (x.toNat : Int)
theorem u8s_snoc (l : List UInt8) (x : UInt8) : u8s (l ++ [x]) = u8s l ++ [.int .u8 (x.toNat : Int)]:=by simp [u8s]
theorem Tryz.info_u8 : (Tryz.prog.info? 5).map (fun i=>(i.zero,i.size,i.bytes)) = some (some (.int .u8 0),1,1):=by kernel_rfl
theorem conv_own {w : World} {B : Nat} {e : TypeId} {v : Value} {l : List UInt8} (h : w.ownsRowF B e 1 v l.length (u8s l)) : (convert 61 9 v).run Tryz.prog w = .ok (.string ⟨l.toArray⟩) w:=by
 rcases h.2 with ⟨rfl,hn⟩ | ⟨g,cap,cur,fz,rfl,_,_,_⟩
 ·have : l = []:=List.eq_nil_of_length_eq_zero hn
  subst this;exact Lib.run_convert_nil_bytes w 61 9 5 0 Tryz.underlying61 Tryz.underlying5 Tryz.underlying9
 ·refine run_convert_bytes_back w 61 9 5 ⟨g,0,none⟩ cap l Tryz.underlying61 Tryz.underlying5 Tryz.underlying9 fun j hj=>?_
  exact h.cells rfl j _ (by simp [u8s,hj])
theorem up_all : ((List.range 256).all fun n=>inB (n : Int) [65,66,67,68,69,70,71,72,73,74,75,76,77,78,79,80,81,82,83,84,85,86,87,88,89,90] == upB (n : Int)) = true:=by decide +kernel
theorem up_in (c : UInt8) : inB (c.toNat : Int) [65,66,67,68,69,70,71,72,73,74,75,76,77,78,79,80,81,82,83,84,85,86,87,88,89,90] = upB (c.toNat : Int):=by
 have:=List.all_eq_true.1 up_all c.toNat (by have:=c.toNat_lt; simp; omega)
 simpa using this
theorem own_snoc {B : Nat} {e : TypeId} {v : Value} {k : Nat} {s : ByteArray} {f : UInt8 -> UInt8} {x : Int} {W0 w : World} (hk : k < s.size) (hx : x = ((f s[k]).toNat : Int))
 (h : Lib.OwnBuf B e v (k + 1) (u8s ((s.data.toList.take k).map f) ++ [.int .u8 x]) W0 w) : Lib.OwnBuf B e v (k + 1) (u8s ((s.data.toList.take (k + 1)).map f)) W0 w:=by
 rw [take_snoc s k hk,List.map_append,List.map_cons,List.map_nil,u8s_snoc,<- hx]; exact h
theorem rlower_any (s : ByteArray) (w : World) (hs : s.size <= 140737488351232) :
 Calls Tryz.prog 29 #[.string s] w fun e w'=>e = .returned (.string (lowS s)) ∧ Below w.heap.size w w':=by
 obtain ⟨i0,hi,hz0,hz1,hz2⟩:=info_parts Tryz.info_u8
 go_enter Tryz.func29,Tryz.ntmps29
 go_wp2
 go_loopw [3,4] (fun v i wr=>∃ k : Nat,k <= s.size ∧ i = .int .i64 k ∧ Lib.OwnBuf w.heap.size 5 v k (u8s ((s.data.toList.take k).map lowU)) w wr) (fun _ i _=>s.size - (intOf i).toNat)
 case atStart=>exact ⟨0,Nat.zero_le _,rfl,World.ownsRowF_nil _ _ _ _,Below.refl _ _,Nat.le_refl _⟩
 case round =>
  obtain ⟨k,hk,rfl,hb⟩:=hrel
  by_cases hlt : k < s.size
  ·have hb':=fun (v : Value) (x : Int) (w' : World)=>own_snoc (B:=w.heap.size) (e:=5) (v:=v) (x:=x) (f:=lowU) (W0:=w) (w:=w') hlt
   have HB : Hid (∀ (v : Value) (x : Int) (w' : World),x = ((lowU s[k]).toNat : Int) -> Lib.OwnBuf w.heap.size 5 v (k + 1) (u8s ((s.data.toList.take k).map lowU) ++ [.int .u8 x]) w w' -> Lib.OwnBuf w.heap.size 5 v (k + 1) (u8s ((s.data.toList.take (k + 1)).map lowU)) w w'):=hb'
   clear hb';have hin:=up_in s[k]
   have H1:=byte_le s[k]
   have hbv : Hid (Lib.OwnBuf w.heap.size 5 _ k (u8s ((s.data.toList.take k).map lowU)) w wr):=hb
   clear hb;by_cases hu : upB (s[k].toNat : Int) = true
   ·obtain ⟨g1,g2⟩:=of_decide_eq_true hu
    have hup:=lowU_up s[k] hu
    have HU : Hid (((lowU s[k]).toNat : Int) = _):=hup
    clear hup;rw [hu] at hin;go_wp2_with (first | (go_at_call 72; refine (in_any _ _ _ (by decide)).mono ?_; rintro e w' ⟨rfl,rfl⟩) | (at_builtin; refine Lib.wpList_append_byte rfl (.tmp 19) (.tmp 21) 61 rfl w.heap.size 5 i0 Tryz.underlying61 hi hz0 hz1 hz2 _ k _ rfl w _ _ hbv.out rfl (by omega) ?_; intro v' w1 hb1))
    all_goals
     go_roundw
     case rel=>exact ⟨k + 1,by omega,by go_num,HB.out _ _ _ HU.out.symm hb1⟩
     case measure=>simp [intOf]; omega
   ·have hu' : upB (s[k].toNat : Int) = false:=by simpa using hu
    have hno:=lowU_no s[k] hu'
    have HU : Hid (lowU s[k] = _):=hno
    clear hno hu;rw [hu'] at hin;go_wp2_with (first | (go_at_call 72; refine (in_any _ _ _ (by decide)).mono ?_; rintro e w' ⟨rfl,rfl⟩) | (at_builtin; refine Lib.wpList_append_byte rfl (.tmp 19) (.tmp 21) 61 rfl w.heap.size 5 i0 Tryz.underlying61 hi hz0 hz1 hz2 _ k _ rfl w _ _ hbv.out rfl (by omega) ?_; intro v' w1 hb1))
    all_goals
     go_roundw
     case rel=>exact ⟨k + 1,by omega,by go_num,HB.out _ _ _ (by rw [HU.out]) hb1⟩
     case measure=>simp [intOf]; omega
  ·have e1 : s.data.toList.take k = s.data.toList:=List.take_of_length_le (by simp; omega)
   rw [e1] at hb;have hk' : k = (s.data.toList.map lowU).length:=by simp; omega
   have hown:=hb.1
   rw [hk'] at hown;have hback:=conv_own hown
   have hr : Hid ((⟨(s.data.toList.map lowU).toArray⟩ : ByteArray) = lowS s):=rfl
   have hbl:=hb.2.1
   generalize (⟨(s.data.toList.map lowU).toArray⟩ : ByteArray) = r at *;clear e1 hk' hown hb;go_wp2
   go_ret;exact ⟨ret_string hr.out,hbl⟩
theorem same_any (a b : ByteArray) (w : World) (ha : a.size <= maxLen) (hb : b.size <= maxLen) :
 Calls Tryz.prog 66 #[.string a,.string b] w fun e w'=>e = .returned (.bool (eqS (lowS a) (lowS b))) ∧ Below w.heap.size w w':=by
 by_cases h : ((a.size : Int) == (b.size : Int)) = true
 ·go_enter Tryz.func66,Tryz.ntmps66
  go_wp2_with fail;refine (lower_any _ _ ha).mono ?_;rintro e w1 ⟨rfl,hb1⟩;go_wp2_with fail;refine (lower_any _ _ hb).mono ?_;rintro e w2 ⟨rfl,hb2⟩;go_wp2_with fail
  go_ret;exact ⟨rfl,hb1.trans (hb2.mono hb1.size)⟩
 ·have h' : ((a.size : Int) == (b.size : Int)) = false:=by simpa using h
  have H : Hid (eqS (lowS a) (lowS b) = false):=by
   show (_ == _) = _
   rw [beq_eq_false_iff_ne];intro e
   have e2 : (lowS a).toList.length = (lowS b).toList.length:=by rw [e]
   have s1 : ∀ s : ByteArray,(lowS s).toList.length = s.size:=fun s=>by rw [ByteArray.toList_eq]; simp [lowS]
   rw [s1,s1] at e2;simp [e2] at h
  clear h;go_enter Tryz.func66,Tryz.ntmps66
  go_wp2_with fail;go_ret;exact ⟨ret_bool H.out.symm,Below.refl _ _⟩
theorem low_size (s : ByteArray) : (lowS s).size = s.size:=by show (s.data.toList.map lowU).toArray.size = s.data.size; simp
end Go.Proofs.YtkhipgcgcbhjoaaGreat.Oc
