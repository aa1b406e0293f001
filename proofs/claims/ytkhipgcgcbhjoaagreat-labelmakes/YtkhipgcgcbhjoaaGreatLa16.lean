import Derived.Test.YtkhipgcgcbhjoaaGreatLa1
import Derived.Lib.Bytealg
import Derived.Laws.IdiomStrings
set_option maxHeartbeats 1000000
namespace Go.Proofs.YtkhipgcgcbhjoaaGreat.Oc
open Go.RowKit
def inB (c : Int) (l : List UInt8) : Bool:=l.any fun x=>(x.toNat : Int) == c
theorem inB_snoc (c : Int) (l : List UInt8) (x : UInt8) : inB c (l ++ [x]) = (inB c l || ((x.toNat : Int) == c)):=by simp [inB]
theorem inB_true (c : Int) (s : ByteArray) (k : Nat) (h : k < s.size) (hx : ((s[k].toNat : Int) == c) = true) : inB c s.data.toList = true:=by unfold inB;rw [List.any_eq_true];exact ⟨s[k],by exact List.getElem_mem (l:=s.data.toList) (by simpa using h),hx⟩
theorem in_any (c : Int) (s : ByteArray) (w : World) (hs : s.size <= maxLen) :
 Calls Tryz.prog 72 #[.int .u8 c,.string s] w fun e w'=>e = .returned (.bool (inB c s.data.toList)) ∧ w' = w:=by
 unfold maxLen at hs;go_enter Tryz.func72,Tryz.ntmps72
 go_wp2
 go_loop [5] (fun i=>∃ k : Nat,k <= s.size ∧ i = .int .i64 k ∧ Hid (inB c (s.data.toList.take k) = false)) (fun i=>s.size - (intOf i).toNat)
 case atStart=>exact ⟨0,Nat.zero_le _,rfl,rfl⟩
 case round =>
  obtain ⟨k,hk,rfl,hin⟩:=hrel
  by_cases hlt : k < s.size
  ·by_cases hx : ((s[k].toNat : Int) == c) = true
   ·have H : Hid (inB c s.data.toList = true):=inB_true c s k hlt hx
    go_wp2
    go_ret;exact ⟨ret_bool (by rw [H.out]),rfl⟩
   ·have hx' : ((s[k].toNat : Int) == c) = false:=by simpa using hx
    have H : Hid (inB c (s.data.toList.take (k + 1)) = false):=by show _ = _;rw [take_snoc s k hlt,inB_snoc,hin.out,hx']; rfl
    go_wp2
    go_round
    case rel=>exact ⟨k + 1,by omega,by go_num,H⟩
    case measure=>simp [intOf]; omega
  ·go_wp2
   go_ret;have : s.data.toList.take k = s.data.toList:=List.take_of_length_le (by simp; omega)
   exact ⟨ret_bool (by rw [<- this,hin.out]),rfl⟩
def upB (b : Int) : Bool:=decide (65 <= b ∧ b <= 90)
def lowB (b : Int) : Bool:=decide (97 <= b ∧ b <= 122)
theorem up_any (b : Int) (w : World) :
 Calls Tryz.prog 126 #[.int .u8 b] w fun e w'=>e = .returned (.bool (upB b)) ∧ w' = w:=by
 by_cases h1 : 65 <= b
 ·by_cases h2 : b <= 90
  ·go_enter Tryz.func126,Tryz.ntmps126
   go_wp2
   go_ret;exact ⟨ret_bool (dt ⟨h1,h2⟩),rfl⟩
  ·go_enter Tryz.func126,Tryz.ntmps126
   go_wp2
   go_ret;exact ⟨ret_bool (df (by omega)),rfl⟩
 ·go_enter Tryz.func126,Tryz.ntmps126
  go_wp2
  go_ret;exact ⟨ret_bool (df (by omega)),rfl⟩
theorem low_any (b : Int) (w : World) :
 Calls Tryz.prog 251 #[.int .u8 b] w fun e w'=>e = .returned (.bool (lowB b)) ∧ w' = w:=by
 by_cases h1 : 97 <= b
 ·by_cases h2 : b <= 122
  ·go_enter Tryz.func251,Tryz.ntmps251
   go_wp2
   go_ret;exact ⟨ret_bool (dt ⟨h1,h2⟩),rfl⟩
  ·go_enter Tryz.func251,Tryz.ntmps251
   go_wp2
   go_ret;exact ⟨ret_bool (df (by omega)),rfl⟩
 ·go_enter Tryz.func251,Tryz.ntmps251
  go_wp2
  go_ret;exact ⟨ret_bool (df (by omega)),rfl⟩
def ixI (c : Int) (l : List UInt8) : Int:=Lib.indexByte l c.toNat.toUInt8
theorem idx_run (s : ByteArray) (c : Int) (w : World) : (callFunc 294 #[.string s,.int .u8 c]).run Tryz.prog w = .ok (.value (.int .i64 (ixI c s.data.toList))) w:=by rw [run_callFunc_indexByte Tryz.func294 (by kernel_rfl) (by kernel_rfl) (by kernel_rfl) (by kernel_rfl),Lib.run_indexByteString]; rfl
theorem idx_any (s : ByteArray) (c : Int) (w : World) :
 Calls Tryz.prog 252 #[.string s,.int .u8 c] w fun e w'=>e = .returned (.int .i64 (ixI c s.data.toList)) ∧ w' = w:=by
 have h:=idx_run
 go_enter Tryz.func252,Tryz.ntmps252
 go_wp2
 go_ret;exact ⟨rfl,rfl⟩
def clsI (b : Int) : Int :=
 if 48 <= b ∧ b <= 57 then 34 else if (65 <= b ∧ b <= 70) ∨ (97 <= b ∧ b <= 102) then 33 else if (65 <= b ∧ b <= 90) ∨ (97 <= b ∧ b <= 122) then 1
 else if 0 <= ixI b [45,46,95,126] then 4 else if 0 <= ixI b [33,36,38,39,40,41,42,43,44,59,61] then 8 else if 0 <= ixI b [58,47,63,35,91,93,64] then 16 else 0
theorem cls_any (b : Int) (w : World) :
 Calls Tryz.prog 193 #[.int .u8 b] w fun e w'=>e = .returned (.int .i64 (clsI b)) ∧ w' = w:=by
 have key : ∀ n : Int,clsI b = n -> Hid (clsI b = n):=fun _ h=>h
 by_cases h1 : 48 <= b ∧ b <= 57
 ·have H:=key 34 (by unfold clsI; rw [if_pos h1])
  obtain ⟨h1,h2⟩:=h1
  clear key;go_enter Tryz.func193,Tryz.ntmps193
  go_wp2
  go_ret;exact ⟨ret_int H.out.symm,rfl⟩
 by_cases h2 : (65 <= b ∧ b <= 70) ∨ (97 <= b ∧ b <= 102)
 ·have H:=key 33 (by unfold clsI; rw [if_neg h1,if_pos h2])
  clear key;have h3 : ¬ b <= 57:=by omega
  have h4 : 48 <= b:=by omega
  rcases h2 with ⟨h5,h6⟩ | ⟨h5,h6⟩
  ·clear h1;go_enter Tryz.func193,Tryz.ntmps193
   go_wp2
   go_ret;exact ⟨ret_int H.out.symm,rfl⟩
  ·clear h1;have h7 : 65 <= b:=by omega
   have h8 : ¬ b <= 70:=by omega
   go_enter Tryz.func193,Tryz.ntmps193
   go_wp2
   go_ret;exact ⟨ret_int H.out.symm,rfl⟩
 have n1 : 48 <= b -> ¬ b <= 57:=fun h h'=>h1 ⟨h,h'⟩
 have n2 : 65 <= b -> ¬ b <= 70:=fun h h'=>h2 (.inl ⟨h,h'⟩)
 have n3 : 97 <= b -> ¬ b <= 102:=fun h h'=>h2 (.inr ⟨h,h'⟩)
 by_cases h3 : (65 <= b ∧ b <= 90) ∨ (97 <= b ∧ b <= 122)
 ·have H:=key 1 (by unfold clsI; rw [if_neg h1,if_neg h2,if_pos h3])
  clear key;rcases h3 with ⟨h5,h6⟩ | ⟨h5,h6⟩
  ·have a1 : 48 <= b:=by omega
   have a2 : ¬ b <= 57:=by omega
   have a3 : ¬ b <= 70:=by omega
   have a4 : ¬ 97 <= b:=by omega
   clear h1 h2 n1 n2 n3;go_enter Tryz.func193,Tryz.ntmps193
   go_wp2
   go_ret;exact ⟨ret_int H.out.symm,rfl⟩
  ·have a1 : 48 <= b:=by omega
   have a2 : ¬ b <= 57:=by omega
   have a3 : 65 <= b:=by omega
   have a4 : ¬ b <= 70:=by omega
   have a5 : ¬ b <= 102:=by omega
   have a6 : ¬ b <= 90:=by omega
   clear h1 h2 n1 n2 n3;go_enter Tryz.func193,Tryz.ntmps193
   go_wp2
   go_ret;exact ⟨ret_int H.out.symm,rfl⟩
 have e1 : clsI b = if 0 <= ixI b [45,46,95,126] then 4 else if 0 <= ixI b [33,36,38,39,40,41,42,43,44,59,61] then 8 else if 0 <= ixI b [58,47,63,35,91,93,64] then 16 else 0:=by unfold clsI; rw [if_neg h1,if_neg h2,if_neg h3]
 have u1 : upB b = false:=by unfold upB; rw [decide_eq_false_iff_not]; omega
 have u2 : lowB b = false:=by unfold lowB; rw [decide_eq_false_iff_not]; omega
 have p1 : Hid (¬ (48 <= b ∧ b <= 57) ∧ ¬ (65 <= b ∧ b <= 70) ∧ ¬ (97 <= b ∧ b <= 102)):=⟨h1,fun h=>h2 (.inl h),fun h=>h2 (.inr h)⟩
 clear h1 h2 h3 n1 n2 n3;have E1 : Hid (clsI b = _):=e1
 clear e1 key;have p2 : b < 48 ∨ (57 < b ∧ b < 65) ∨ (90 < b ∧ b < 97) ∨ 122 < b:=by
  have:=p1.out
  have q1 : ¬ (65 <= b ∧ b <= 90):=by simpa [upB] using u1
  have q2 : ¬ (97 <= b ∧ b <= 122):=by simpa [lowB] using u2
  omega
 clear p1;rcases p2 with p | ⟨p,q⟩ | ⟨p,q⟩ | p
 all_goals
  go_enter Tryz.func193,Tryz.ntmps193
  go_wp2_with (first | (go_at_call 126; refine (up_any _ _).mono ?_; rintro e w' ⟨rfl,rfl⟩) | (go_at_call 251; refine (low_any _ _).mono ?_; rintro e w' ⟨rfl,rfl⟩) | (go_at_call 252; refine (idx_any _ _ _).mono ?_; rintro e w' ⟨rfl,rfl⟩))
  all_goals
   go_ret;exact ⟨ret_int (by rw [E1.out]; repeat (first | rw [if_pos (by omega)] | rw [if_neg (by omega)])),rfl⟩
def combo (b : Int) : List Bool :=
 [inB b [65,66,67,68,69,70,71,72,73,74,75,76,77,78,79,80,81,82,83,84,85,86,87,88,89,90,97,98,99,100,101,102,103,104,105,106,107,108,109,110,111,112,113,114,115,116,117,118,119,120,121,122],
  inB b [48,49,50,51,52,53,54,55,56,57],inB b [45,46,95,126],inB b [33,36,38,39,40,41,42,43,44,59,61],inB b [58,47,63,35,91,93,64],
  inB b [48,49,50,51,52,53,54,55,56,57,65,66,67,68,69,70,97,98,99,100,101,102]]
def combos : List (List Bool × Int) :=
 [([true,false,false,false,false,true],33),([true,false,false,false,false,false],1),([false,true,false,false,false,true],34),
  ([false,false,true,false,false,false],4),([false,false,false,true,false,false],8),([false,false,false,false,true,false],16),([false,false,false,false,false,false],0)]
theorem combo_all : ((List.range 256).all fun n=>combos.contains (combo (n : Int),clsI (n : Int))) = true:=by decide +kernel
theorem combo_in (b : Int) (h0 : 0 <= b) (h1 : b <= 255) : (combo b,clsI b) ∈ combos:=by
 obtain ⟨n,rfl⟩:=Int.eq_ofNat_of_zero_le h0
 have:=List.all_eq_true.1 combo_all n (by simp; omega)
 simpa using this
theorem rcls_any (b : Int) (w : World) (h0 : 0 <= b) (h1 : b <= 255) :
 Calls Tryz.prog 65 #[.int .u8 b] w fun e w'=>e = .returned (.int .i64 (clsI b)) ∧ w' = w:=by
 have hc:=combo_in b h0 h1
 simp only [combo,combos,List.mem_cons,Prod.mk.injEq,List.cons.injEq,and_true,List.not_mem_nil,or_false] at hc
 rcases hc with ⟨⟨c1,c2,c3,c4,c5,c6⟩,c7⟩ | ⟨⟨c1,c2,c3,c4,c5,c6⟩,c7⟩ | ⟨⟨c1,c2,c3,c4,c5,c6⟩,c7⟩ | ⟨⟨c1,c2,c3,c4,c5,c6⟩,c7⟩ | ⟨⟨c1,c2,c3,c4,c5,c6⟩,c7⟩ | ⟨⟨c1,c2,c3,c4,c5,c6⟩,c7⟩ | ⟨⟨c1,c2,c3,c4,c5,c6⟩,c7⟩
 all_goals
  have H : Hid (clsI b = _):=c7
  clear c7;go_enter Tryz.func65,Tryz.ntmps65
  go_wp2_with (go_at_call 72; refine (in_any _ _ _ (by decide)).mono ?_; rintro e w' ⟨rfl,rfl⟩)
  go_ret;exact ⟨ret_int H.out.symm,rfl⟩
def isB (b c : Int) : Bool:=bits BinOp.and IntKind.i64 (clsI b) c != 0
theorem is_any (b c : Int) (w : World) :
 Calls Tryz.prog 122 #[.int .u8 b,.int .i64 c] w fun e w'=>e = .returned (.bool (isB b c)) ∧ w' = w:=by
 go_enter Tryz.func122,Tryz.ntmps122
 go_wp2_with (go_at_call 193; refine (cls_any _ _).mono ?_; rintro e w' ⟨rfl,rfl⟩)
 go_ret;exact ⟨rfl,rfl⟩
def Lies (w : World) (g : Nat) (l : List UInt8) : Prop:=∀ j (h : j < l.length),w.cell? ⟨g,j,none⟩ = some (.int .u8 (l[j].toNat : Int)) ∧ w.frozen? ⟨g,j,none⟩ = false
theorem Lies.set {w : World} {g : Nat} {l : List UInt8} (h : Lies w g l) (k : Nat) (x : UInt8) (_hk : k < l.length) : Lies (w.setCell ⟨g,k,none⟩ (.int .u8 (x.toNat : Int))) g (l.set k x):=by
 intro j hj
 rw [List.length_set] at hj;refine ⟨?_,by rw [World.frozen?_setCell]; exact (h j hj).2⟩
 by_cases e : k = j
 ·subst e;rw [World.cell?_setCell_same _ _ _ (h k hj).1]; simp
 ·rw [World.cell?_setCell_other _ _ _ _ (by simp),(h j hj).1];simp [e]
theorem Lies.conv (w : World) (s : ByteArray) (cap : Nat) (e : TypeId) : Lies (w.alloc (.cells (bytesRow s cap) e ((bytesRow s cap).size,(bytesRow s cap).size + 1))) w.heap.size s.data.toList:=by
 intro j hj
 have hj' : j < s.size:=by simpa using hj
 constructor
 ·rw [World.cell?_alloc_mark];have hj3 : j < s.data.size:=hj'
  unfold bytesRow;rw [Array.getElem?_append_left (by rw [Array.size_map]; exact hj3),Array.getElem?_map,Array.getElem?_eq_getElem hj3]
  rfl
 ·rw [World.frozen?_alloc_mark];have : s.size <= (bytesRow s cap).size:=by
   unfold bytesRow; rw [Array.size_append,Array.size_map]; exact Nat.le_add_right _ _
  simp; omega
def lowU (c : UInt8) : UInt8:=if upB c.toNat then c + 32 else c
def lowS (s : ByteArray) : ByteArray:=⟨(s.data.toList.map lowU).toArray⟩
def mixed (f : UInt8 -> UInt8) (k : Nat) (l : List UInt8) : List UInt8:=(l.take k).map f ++ l.drop k
theorem mixed_len (f : UInt8 -> UInt8) (k : Nat) (l : List UInt8) : (mixed f k l).length = l.length:=by simp [mixed]; omega
theorem mixed_at (f : UInt8 -> UInt8) (k : Nat) (l : List UInt8) (h : k < l.length) : (mixed f k l)[k]'(by rw [mixed_len]; exact h) = l[k]:=by
 unfold mixed;rw [List.getElem_append_right (by simp; omega)]
 simp [Nat.min_eq_left (Nat.le_of_lt h)]
theorem mixed_succ (f : UInt8 -> UInt8) (k : Nat) (l : List UInt8) (h : k < l.length) : (mixed f k l).set k (f l[k]) = mixed f (k + 1) l:=by
 unfold mixed;rw [List.take_succ_eq_append_getElem h,List.map_append,List.set_append_right _ _ (by simp; omega),List.append_assoc]
 congr 1
 have e : l.drop k = l[k] :: l.drop (k + 1):=List.drop_eq_getElem_cons h
 have e2 : k - ((l.take k).map f).length = 0:=by simp; omega
 rw [e2,e];rfl
theorem set_self {α : Type} (l : List α) (k : Nat) (h : k < l.length) : l.set k l[k] = l:=List.set_getElem_self h
theorem mixed_stay (f : UInt8 -> UInt8) (k : Nat) (l : List UInt8) (h : k < l.length) (hf : f l[k] = l[k]) : mixed f k l = mixed f (k + 1) l:=by
 rw [<- mixed_succ f k l h,hf];have:=set_self (mixed f k l) k (by rw [mixed_len]; exact h)
 rw [mixed_at f k l h] at this;exact this.symm
theorem mixed_zero (f : UInt8 -> UInt8) (l : List UInt8) : mixed f 0 l = l:=by simp [mixed]
theorem mixed_all (f : UInt8 -> UInt8) (l : List UInt8) : mixed f l.length l = l.map f:=by simp [mixed]
theorem lowU_up (c : UInt8) (h : upB c.toNat = true) : (((lowU c).toNat : Nat) : Int) = c.toNat + 32:=by
 unfold lowU; rw [if_pos h];unfold upB at h;have h':=of_decide_eq_true h
 have e : (c + 32).toNat = (c.toNat + 32) % 256:=by rw [UInt8.toNat_add]; rfl
 rw [e]; omega
theorem lowU_no (c : UInt8) (h : upB c.toNat = false) : lowU c = c:=by unfold lowU; rw [h]; rfl
theorem lower_any (s : ByteArray) (w : World) (hs : s.size <= maxLen) :
 Calls Tryz.prog 69 #[.string s] w fun e w'=>e = .returned (.string (lowS s)) ∧ Below w.heap.size w w':=by
 unfold maxLen at hs;have hconv:=run_bytes_of_string (P:=Tryz.prog) w 9 61 5 s Tryz.underlying9 Tryz.underlying61 Tryz.underlying5
 have hL:=Lies.conv w s (grownCap w s.size 0 5) 5
 have hB:=Below.conv w (.cells (bytesRow s (grownCap w s.size 0 5)) 5 ((bytesRow s (grownCap w s.size 0 5)).size,(bytesRow s (grownCap w s.size 0 5)).size + 1))
 generalize grownCap w s.size 0 5 = cap at *;generalize bytesRow s cap = C at *;have HL : Hid (Lies _ _ _):=hL
 clear hL;go_enter Tryz.func69,Tryz.ntmps69
 go_wp2
 go_loopw [10] (fun i wr=>∃ k : Nat,k <= s.size ∧ i = .int .i64 k ∧ Below w.heap.size w wr ∧ Lies wr w.heap.size (mixed lowU k s.data.toList)) (fun i _=>s.size - (intOf i).toNat)
 case atStart=>exact ⟨0,Nat.zero_le _,rfl,hB,by rw [mixed_zero]; exact HL.out⟩
 case round =>
  obtain ⟨k,hk,rfl,hb,hl⟩:=hrel
  clear hconv hB HL;by_cases hlt : k < s.size
  ·have hlt' : k < s.data.toList.length:=by simpa using hlt
   obtain ⟨hc,hf⟩:=hl k (by rw [mixed_len]; exact hlt')
   rw [mixed_at lowU k _ hlt'] at hc;have hm:=mixed_succ lowU k _ hlt'
   have hy:=mixed_stay lowU k _ hlt'
   have HM : Hid ((mixed lowU k s.data.toList).set k (lowU s.data.toList[k]) = mixed lowU (k + 1) s.data.toList):=hm
   have HY : Hid (lowU s.data.toList[k] = s.data.toList[k] -> mixed lowU k s.data.toList = mixed lowU (k + 1) s.data.toList):=hy
   clear hm hy;generalize s.data.toList[k] = c at *;by_cases hu : upB (c.toNat : Int) = true
   ·obtain ⟨g1,g2⟩:=of_decide_eq_true hu
    have hset:=hl.set k (lowU c) (by rw [mixed_len]; exact hlt')
    rw [HM.out,lowU_up c hu] at hset;have HS : Hid (Lies _ _ _):=hset
    clear hset hl;go_wp2_with (go_at_call 126; refine (up_any _ _).mono ?_; rintro e w' ⟨rfl,rfl⟩)
    go_roundw
    case rel=>exact ⟨k + 1,by omega,by go_num,hb.setCell (Nat.le_refl _) _,HS.out⟩
    case measure=>simp [intOf]; omega
   ·have hu' : upB (c.toNat : Int) = false:=by simpa using hu
    have hy:=HY.out (lowU_no c hu')
    rw [hy] at hl;clear hy HY HM hu;go_wp2_with (go_at_call 126; refine (up_any _ _).mono ?_; rintro e w' ⟨rfl,rfl⟩)
    go_roundw
    case rel=>exact ⟨k + 1,by omega,by go_num,hb,hl⟩
    case measure=>simp [intOf]; omega
  ·have e1 : mixed lowU k s.data.toList = s.data.toList.map lowU:=by
    have : k = s.data.toList.length:=by simp; omega
    rw [this,mixed_all]
   rw [e1] at hl;have hlen : (s.data.toList.map lowU).length = s.size:=by simp
   have hback:=run_convert_bytes_back (P:=Tryz.prog) wr 61 9 5 ⟨w.heap.size,0,none⟩ cap (s.data.toList.map lowU) Tryz.underlying61 Tryz.underlying5 Tryz.underlying9 (fun j hj=>by
    have h:=(hl j hj).1
    unfold Addr.add;by_cases hj0 : j = 0
    ·subst hj0; exact h
    ·rw [if_neg hj0]; simpa using h)
   rw [hlen] at hback;have hr : Hid ((⟨(s.data.toList.map lowU).toArray⟩ : ByteArray) = lowS s):=rfl
   generalize (⟨(s.data.toList.map lowU).toArray⟩ : ByteArray) = r at *;clear e1 hlen hl;go_wp2
   go_ret;exact ⟨ret_string hr.out,hb⟩
end Go.Proofs.YtkhipgcgcbhjoaaGreat.Oc
