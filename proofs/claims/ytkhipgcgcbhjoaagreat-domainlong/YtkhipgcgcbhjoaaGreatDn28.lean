import Derived.Test.YtkhipgcgcbhjoaaGreatDn25
import Derived.Test.YtkhipgcgcbhjoaaGreatDn27
import Derived.Test.YtkhipgcgcbhjoaaGreatDn1
import Derived.Lib.Bytealg
import Derived.Laws.IdiomStrings
set_option maxRecDepth 1000000
set_option maxHeartbeats 1000000
namespace Go.Proofs.YtkhipgcgcbhjoaaGreat
namespace Do
open Od Pr Ha Nf Ma
theorem low_val (r : Int) : ∀ (l : List S4),lowP r l = r ∨ ∃ x ∈ l,x.1 <= r ∧ r <= x.2.1 ∧ lowP r l = r + x.2.2.2
 | []=>.inl rfl
 | x :: l=>by
  unfold lowP;by_cases h : x.1 <= r ∧ r <= x.2.1 ∧ (r - x.1) % x.2.2.1 = 0
  ·rw [if_pos h];exact .inr ⟨x,List.mem_cons_self,h.1,h.2.1,rfl⟩
  ·rw [if_neg h];rcases low_val r l with h1 | ⟨y,hy,h1⟩
   ·exact .inl h1
   ·exact .inr ⟨y,List.mem_cons_of_mem _ hy,h1⟩
def spSc (x : S4) : Bool:=decide (0 <= x.1 + x.2.2.2 ∧ x.2.1 + x.2.2.2 < 55296) || decide (57343 < x.1 + x.2.2.2 ∧ x.2.1 + x.2.2.2 <= 1114111)
theorem sp_sc : spanT.all spSc = true:=by kernel_rfl
theorem sc_iff (r : Int) : Ut.scB r = true ↔ (0 <= r ∧ r < 55296) ∨ (57343 < r ∧ r <= 1114111):=by unfold Ut.scB;rw [decide_eq_true_eq]
theorem sc_low {r : Int} (h : Ut.scB r = true) : Ut.scB (lowP r spanT) = true:=by
 rcases low_val r spanT with h1 | ⟨x,hx,h1,h2,h3⟩
 ·rw [h1]; exact h
 ·have:=List.all_eq_true.1 sp_sc x hx
  unfold spSc at this;rw [Bool.or_eq_true,decide_eq_true_eq,decide_eq_true_eq] at this;rw [h3,sc_iff];omega
theorem ka_sc : kanaT.all Ut.scB = true:=by kernel_rfl
theorem sc_wid {r : Int} (h : Ut.scB r = true) : Ut.scB (widP r) = true:=by
 unfold widP;split
 ·rw [sc_iff]; omega
 ·split
  ·rfl
  ·split
   ·rfl
   ·split
    ·rw [List.getD_eq_getElem?_getD];cases e : kanaT[(r - 65382).toNat]? with
     | none=>rfl
     | some y=>exact List.all_eq_true.1 ka_sc y (List.mem_of_getElem? e)
    ·exact h
theorem sc_t {r : Int} (h : Ut.scB r = true) : Ut.scB (tP r) = true:=sc_wid (sc_low h)
theorem sc_st {r : Int} (h : Ut.scB r = true) : Ut.scB (stP r) = true:=by
 unfold stP;split
 ·rfl
 ·exact h
def rowSc (x : R3) : Bool:=Ut.scB x.1 && Ut.scB x.2.1 && Ut.scB x.2.2
theorem rows_sc : allP.all rowSc = true:=by kernel_rfl
theorem row_sc (x : R3) (hx : x ∈ allP) : Ut.scB x.1 = true ∧ Ut.scB x.2.1 = true ∧ Ut.scB x.2.2 = true:=by
 have h:=List.all_eq_true.1 rows_sc x hx
 unfold rowSc at h;rw [Bool.and_eq_true,Bool.and_eq_true] at h;exact ⟨h.1.1,h.1.2,h.2⟩
theorem sc_map {l : List Int} (h : ∀ x ∈ l,Ut.scB x = true) : ∀ y ∈ mapP l,Ut.scB y = true:=by
 have h1 : ∀ y ∈ nfcP clsP (l.map tP),Ut.scB y = true:=by
  refine nfc_inv clsP (fun y=>Ut.scB y = true) (fun x hx _=>⟨(row_sc x hx).2.1,fun _=>(row_sc x hx).2.2⟩) (fun y h1 h2=>by rw [sc_iff]; omega) (fun x hx _ _ _=>(row_sc x hx).1) (fun y h1 h2=>by rw [sc_iff]; omega) _ (fun x hx=>?_)
  obtain ⟨y,hy,rfl⟩:=List.mem_map.1 hx
  exact sc_t (h y hy)
 intro y hy
 obtain ⟨x,hx,rfl⟩:=List.mem_map.1 hy
 exact sc_st (h1 x hx)
theorem rows_len : allP.all (fun x=>decide ((apF 6 x.1).length <= 3)) = true:=by kernel_rfl
theorem ap_len (r : Int) : (apP r).length <= 3:=by
 by_cases h1 : sylB r = true
 ·rw [ap_eq,if_pos h1];unfold sylL;split <;> simp
 ·by_cases h : ∃ x ∈ allP,x.1 = r
  ·obtain ⟨x,hx,rfl⟩:=h
   exact of_decide_eq_true (List.all_eq_true.1 rows_len x hx)
  ·rw [ap_plain r (by simpa using h1) (fun x hx e=>h ⟨x,hx,e⟩)]; simp
def lowLo (i : Nat) : Bool:=decide (tP (i : Int) < 128) && decide (0 <= tP (i : Int))
theorem low_ascii : (List.range 128).all lowLo = true:=by kernel_rfl
theorem t_low {r : Int} (h0 : 0 <= r) (h : r < 128) : 0 <= tP r ∧ tP r < 128:=by
 have:=List.all_eq_true.1 low_ascii r.toNat (List.mem_range.2 (by omega))
 unfold lowLo at this;rw [show ((r.toNat : Nat) : Int) = r by omega,Bool.and_eq_true,decide_eq_true_eq,decide_eq_true_eq] at this
 exact ⟨this.2,this.1⟩
theorem enc_two {r : Int} (h : Ut.scB r = true) : 1 <= (Ut.encS r).size ∧ (128 <= r -> 2 <= (Ut.encS r).size) ∧ (r < 128 -> (Ut.encS r).data.toList = [UInt8.ofNat r.toNat]):=by
 obtain ⟨e1,e2,e3,e4⟩:=Ut.encode_cases r h
 by_cases h1 : r < 128
 ·rw [e1 h1];exact ⟨by simp [ByteArray.size],fun h2=>by omega,fun _=>rfl⟩
 ·by_cases h2 : r < 2048
  ·rw [e2 (by omega) h2];exact ⟨by simp [ByteArray.size],fun _=>by simp [ByteArray.size],fun h3=>absurd h3 h1⟩
  ·by_cases h3 : r < 65536
   ·rw [e3 (by omega) h3];exact ⟨by simp [ByteArray.size],fun _=>by simp [ByteArray.size],fun h3=>absurd h3 h1⟩
   ·rw [e4 (by omega)];exact ⟨by simp [ByteArray.size],fun _=>by simp [ByteArray.size],fun h3=>absurd h3 h1⟩
theorem text_cons (z : Int) (zs : List Int) : Ut.textL (z :: zs) = (Ut.encS z).data.toList ++ Ut.textL zs:=by unfold Ut.textL;rw [List.flatMap_cons]
theorem len_enc (z : Int) : (Ut.encS z).data.toList.length = (Ut.encS z).size:=len_size _
theorem map_len : ∀ (l : List Int),(∀ x ∈ l,Ut.scB x = true) -> 2 * ((l.map tP).flatMap apP).length <= 3 * (Ut.textL l).length
 | [],_=>by simp
 | x :: l,h=>by
  have ih:=map_len l (fun y hy=>h y (List.mem_cons_of_mem _ hy))
  have hx:=h x List.mem_cons_self
  obtain ⟨e1,e2,_⟩:=enc_two hx
  rw [List.map_cons,List.flatMap_cons,List.length_append,text_cons,List.length_append,len_enc];by_cases h1 : x < 128
  ·have h0 : 0 <= x:=by have:=(sc_iff x).1 hx; omega
   have ht:=t_low h0 h1
   rw [ap_low ht.2];simp only [List.length_singleton]
   omega
  ·have:=ap_len (tP x)
   have:=e2 (by omega)
   omega
theorem map_size {l : List Int} (h : ∀ x ∈ l,Ut.scB x = true) : 2 * (mapP l).length <= 3 * (Ut.textL l).length:=by
 have h1:=map_len l h
 have hI : ∀ z ∈ nfdP clsP (l.map tP),I32 z:=by
  refine nfd_I32 clsP _ (fun z hz=>?_)
  obtain ⟨y,hy,rfl⟩:=List.mem_map.1 hz
  have:=(sc_iff _).1 (sc_t (h y hy))
  exact ⟨by omega,by omega⟩
 have h2:=(comp_I32 _ hI).2
 have h3 : (nfdP clsP (l.map tP)).length = ((l.map tP).flatMap apP).length:=by unfold nfdP; exact srt_len clsP _
 have h4 : (mapP l).length = (nfcP clsP (l.map tP)).length:=by unfold mapP; rw [List.length_map]
 rw [h4];unfold nfcP;omega
end Do
end Go.Proofs.YtkhipgcgcbhjoaaGreat
namespace Go.Proofs.YtkhipgcgcbhjoaaGreat.Oc
open Go.RowKit
def inB (c : Int) (l : List UInt8) : Bool:=l.any fun x=>(x.toNat : Int) == c
theorem inB_snoc (c : Int) (l : List UInt8) (x : UInt8) : inB c (l ++ [x]) = (inB c l || ((x.toNat : Int) == c)):=by simp [inB]
theorem inB_true (c : Int) (s : ByteArray) (k : Nat) (h : k < s.size) (hx : ((s[k].toNat : Int) == c) = true) : inB c s.data.toList = true:=by unfold inB;rw [List.any_eq_true];exact ⟨s[k],by exact List.getElem_mem (l:=s.data.toList) (by simpa using h),hx⟩
theorem in_any (c : Int) (s : ByteArray) (w : World) (hs : s.size <= maxLen) :
 Calls Tryz.prog 72 #[.int .u8 c,.string s] w fun e w'=>e = .returned (.bool (inB c s.data.toList)) ∧ w' = w:=by
 unfold maxLen at hs;go_enter Tryz.func72,Tryz.ntmps72
 go_wp2
 go_loop [5] (fun i=>∃ k : Nat,k <= s.size ∧ i = .int .i64 k ∧ Hid (inB c (s.data.toList.take k) = false)) (fun i=>s.size - (intOf i).toNat)
 case atStart=>exact ⟨0,Nat.zero_le _,rfl,rfl⟩
 case round =>
  obtain ⟨k,hk,rfl,hin⟩:=hrel
  by_cases hlt : k < s.size
  ·by_cases hx : ((s[k].toNat : Int) == c) = true
   ·have H : Hid (inB c s.data.toList = true):=inB_true c s k hlt hx
    go_wp2
    go_ret;exact ⟨ret_bool (by rw [H.out]),rfl⟩
   ·have hx' : ((s[k].toNat : Int) == c) = false:=by simpa using hx
    have H : Hid (inB c (s.data.toList.take (k + 1)) = false):=by show _ = _;rw [take_snoc s k hlt,inB_snoc,hin.out,hx']; rfl
    go_wp2
    go_round
    case rel=>exact ⟨k + 1,by omega,by go_num,H⟩
    case measure=>simp [intOf]; omega
  ·go_wp2
   go_ret;have : s.data.toList.take k = s.data.toList:=List.take_of_length_le (by simp; omega)
   exact ⟨ret_bool (by rw [<- this,hin.out]),rfl⟩
def upB (b : Int) : Bool:=decide (65 <= b ∧ b <= 90)
def lowB (b : Int) : Bool:=decide (97 <= b ∧ b <= 122)
theorem up_any (b : Int) (w : World) :
 Calls Tryz.prog 126 #[.int .u8 b] w fun e w'=>e = .returned (.bool (upB b)) ∧ w' = w:=by
 by_cases h1 : 65 <= b
 ·by_cases h2 : b <= 90
  ·go_enter Tryz.func126,Tryz.ntmps126
   go_wp2
   go_ret;exact ⟨ret_bool (dt ⟨h1,h2⟩),rfl⟩
  ·go_enter Tryz.func126,Tryz.ntmps126
   go_wp2
   go_ret;exact ⟨ret_bool (df (by omega)),rfl⟩
 ·go_enter Tryz.func126,Tryz.ntmps126
  go_wp2
  go_ret;exact ⟨ret_bool (df (by omega)),rfl⟩
theorem low_any (b : Int) (w : World) :
 Calls Tryz.prog 251 #[.int .u8 b] w fun e w'=>e = .returned (.bool (lowB b)) ∧ w' = w:=by
 by_cases h1 : 97 <= b
 ·by_cases h2 : b <= 122
  ·go_enter Tryz.func251,Tryz.ntmps251
   go_wp2
   go_ret;exact ⟨ret_bool (dt ⟨h1,h2⟩),rfl⟩
  ·go_enter Tryz.func251,Tryz.ntmps251
   go_wp2
   go_ret;exact ⟨ret_bool (df (by omega)),rfl⟩
 ·go_enter Tryz.func251,Tryz.ntmps251
  go_wp2
  go_ret;exact ⟨ret_bool (df (by omega)),rfl⟩
def ixI (c : Int) (l : List UInt8) : Int:=Lib.indexByte l c.toNat.toUInt8
theorem idx_run (s : ByteArray) (c : Int) (w : World) : (callFunc 294 #[.string s,.int .u8 c]).run Tryz.prog w = .ok (.value (.int .i64 (ixI c s.data.toList))) w:=by rw [run_callFunc_indexByte Tryz.func294 (by kernel_rfl) (by kernel_rfl) (by kernel_rfl) (by kernel_rfl),Lib.run_indexByteString]; rfl
theorem idx_any (s : ByteArray) (c : Int) (w : World) :
 Calls Tryz.prog 252 #[.string s,.int .u8 c] w fun e w'=>e = .returned (.int .i64 (ixI c s.data.toList)) ∧ w' = w:=by
 have h:=idx_run
 go_enter Tryz.func252,Tryz.ntmps252
 go_wp2
 go_ret;exact ⟨rfl,rfl⟩
def clsI (b : Int) : Int :=
 if 48 <= b ∧ b <= 57 then 34 else if (65 <= b ∧ b <= 70) ∨ (97 <= b ∧ b <= 102) then 33 else if (65 <= b ∧ b <= 90) ∨ (97 <= b ∧ b <= 122) then 1
 else if 0 <= ixI b [45,46,95,126] then 4 else if 0 <= ixI b [33,36,38,39,40,41,42,43,44,59,61] then 8 else if 0 <= ixI b [58,47,63,35,91,93,64] then 16 else 0
theorem cls_any (b : Int) (w : World) :
 Calls Tryz.prog 193 #[.int .u8 b] w fun e w'=>e = .returned (.int .i64 (clsI b)) ∧ w' = w:=by
 have key : ∀ n : Int,clsI b = n -> Hid (clsI b = n):=fun _ h=>h
 by_cases h1 : 48 <= b ∧ b <= 57
 ·have H:=key 34 (by unfold clsI; rw [if_pos h1])
  obtain ⟨h1,h2⟩:=h1
  clear key;go_enter Tryz.func193,Tryz.ntmps193
  go_wp2
  go_ret;exact ⟨ret_int H.out.symm,rfl⟩
 by_cases h2 : (65 <= b ∧ b <= 70) ∨ (97 <= b ∧ b <= 102)
 ·have H:=key 33 (by unfold clsI; rw [if_neg h1,if_pos h2])
  clear key;have h3 : ¬ b <= 57:=by omega
  have h4 : 48 <= b:=by omega
  rcases h2 with ⟨h5,h6⟩ | ⟨h5,h6⟩
  ·clear h1;go_enter Tryz.func193,Tryz.ntmps193
   go_wp2
   go_ret;exact ⟨ret_int H.out.symm,rfl⟩
  ·clear h1;have h7 : 65 <= b:=by omega
   have h8 : ¬ b <= 70:=by omega
   go_enter Tryz.func193,Tryz.ntmps193
   go_wp2
   go_ret;exact ⟨ret_int H.out.symm,rfl⟩
 have n1 : 48 <= b -> ¬ b <= 57:=fun h h'=>h1 ⟨h,h'⟩
 have n2 : 65 <= b -> ¬ b <= 70:=fun h h'=>h2 (.inl ⟨h,h'⟩)
 have n3 : 97 <= b -> ¬ b <= 102:=fun h h'=>h2 (.inr ⟨h,h'⟩)
 by_cases h3 : (65 <= b ∧ b <= 90) ∨ (97 <= b ∧ b <= 122)
 ·have H:=key 1 (by unfold clsI; rw [if_neg h1,if_neg h2,if_pos h3])
  clear key;rcases h3 with ⟨h5,h6⟩ | ⟨h5,h6⟩
  ·have a1 : 48 <= b:=by omega
   have a2 : ¬ b <= 57:=by omega
   have a3 : ¬ b <= 70:=by omega
   have a4 : ¬ 97 <= b:=by omega
   clear h1 h2 n1 n2 n3;go_enter Tryz.func193,Tryz.ntmps193
   go_wp2
   go_ret;exact ⟨ret_int H.out.symm,rfl⟩
  ·have a1 : 48 <= b:=by omega
   have a2 : ¬ b <= 57:=by omega
   have a3 : 65 <= b:=by omega
   have a4 : ¬ b <= 70:=by omega
   have a5 : ¬ b <= 102:=by omega
   have a6 : ¬ b <= 90:=by omega
   clear h1 h2 n1 n2 n3;go_enter Tryz.func193,Tryz.ntmps193
   go_wp2
   go_ret;exact ⟨ret_int H.out.symm,rfl⟩
 have e1 : clsI b = if 0 <= ixI b [45,46,95,126] then 4 else if 0 <= ixI b [33,36,38,39,40,41,42,43,44,59,61] then 8 else if 0 <= ixI b [58,47,63,35,91,93,64] then 16 else 0:=by unfold clsI; rw [if_neg h1,if_neg h2,if_neg h3]
 have u1 : upB b = false:=by unfold upB; rw [decide_eq_false_iff_not]; omega
 have u2 : lowB b = false:=by unfold lowB; rw [decide_eq_false_iff_not]; omega
 have p1 : Hid (¬ (48 <= b ∧ b <= 57) ∧ ¬ (65 <= b ∧ b <= 70) ∧ ¬ (97 <= b ∧ b <= 102)):=⟨h1,fun h=>h2 (.inl h),fun h=>h2 (.inr h)⟩
 clear h1 h2 h3 n1 n2 n3;have E1 : Hid (clsI b = _):=e1
 clear e1 key;have p2 : b < 48 ∨ (57 < b ∧ b < 65) ∨ (90 < b ∧ b < 97) ∨ 122 < b:=by
  have:=p1.out
  have q1 : ¬ (65 <= b ∧ b <= 90):=by simpa [upB] using u1
  have q2 : ¬ (97 <= b ∧ b <= 122):=by simpa [lowB] using u2
  omega
 clear p1;rcases p2 with p | ⟨p,q⟩ | ⟨p,q⟩ | p
 all_goals
  go_enter Tryz.func193,Tryz.ntmps193
  go_wp2_with (first | (go_at_call 126; refine (up_any _ _).mono ?_; rintro e w' ⟨rfl,rfl⟩) | (go_at_call 251; refine (low_any _ _).mono ?_; rintro e w' ⟨rfl,rfl⟩) | (go_at_call 252; refine (idx_any _ _ _).mono ?_; rintro e w' ⟨rfl,rfl⟩))
  all_goals
   go_ret;exact ⟨ret_int (by rw [E1.out]; repeat (first | rw [if_pos (by omega)] | rw [if_neg (by omega)])),rfl⟩
def isB (b c : Int) : Bool:=bits BinOp.and IntKind.i64 (clsI b) c != 0
theorem is_any (b c : Int) (w : World) :
 Calls Tryz.prog 122 #[.int .u8 b,.int .i64 c] w fun e w'=>e = .returned (.bool (isB b c)) ∧ w' = w:=by
 go_enter Tryz.func122,Tryz.ntmps122
 go_wp2_with (go_at_call 193; refine (cls_any _ _).mono ?_; rintro e w' ⟨rfl,rfl⟩)
 go_ret;exact ⟨rfl,rfl⟩
def Lies (w : World) (g : Nat) (l : List UInt8) : Prop:=∀ j (h : j < l.length),w.cell? ⟨g,j,none⟩ = some (.int .u8 (l[j].toNat : Int)) ∧ w.frozen? ⟨g,j,none⟩ = false
theorem Lies.set {w : World} {g : Nat} {l : List UInt8} (h : Lies w g l) (k : Nat) (x : UInt8) (_hk : k < l.length) : Lies (w.setCell ⟨g,k,none⟩ (.int .u8 (x.toNat : Int))) g (l.set k x):=by
 intro j hj
 rw [List.length_set] at hj;refine ⟨?_,by rw [World.frozen?_setCell]; exact (h j hj).2⟩
 by_cases e : k = j
 ·subst e;rw [World.cell?_setCell_same _ _ _ (h k hj).1]; simp
 ·rw [World.cell?_setCell_other _ _ _ _ (by simp),(h j hj).1];simp [e]
theorem Lies.conv (w : World) (s : ByteArray) (cap : Nat) (e : TypeId) : Lies (w.alloc (.cells (bytesRow s cap) e ((bytesRow s cap).size,(bytesRow s cap).size + 1))) w.heap.size s.data.toList:=by
 intro j hj
 have hj' : j < s.size:=by simpa using hj
 constructor
 ·rw [World.cell?_alloc_mark];have hj3 : j < s.data.size:=hj'
  unfold bytesRow;rw [Array.getElem?_append_left (by rw [Array.size_map]; exact hj3),Array.getElem?_map,Array.getElem?_eq_getElem hj3]
  rfl
 ·rw [World.frozen?_alloc_mark];have : s.size <= (bytesRow s cap).size:=by
   unfold bytesRow; rw [Array.size_append,Array.size_map]; exact Nat.le_add_right _ _
  simp; omega
def lowU (c : UInt8) : UInt8:=if upB c.toNat then c + 32 else c
def lowS (s : ByteArray) : ByteArray:=⟨(s.data.toList.map lowU).toArray⟩
def mixed (f : UInt8 -> UInt8) (k : Nat) (l : List UInt8) : List UInt8:=(l.take k).map f ++ l.drop k
theorem mixed_len (f : UInt8 -> UInt8) (k : Nat) (l : List UInt8) : (mixed f k l).length = l.length:=by simp [mixed]; omega
theorem mixed_at (f : UInt8 -> UInt8) (k : Nat) (l : List UInt8) (h : k < l.length) : (mixed f k l)[k]'(by rw [mixed_len]; exact h) = l[k]:=by
 unfold mixed;rw [List.getElem_append_right (by simp; omega)]
 simp [Nat.min_eq_left (Nat.le_of_lt h)]
theorem mixed_succ (f : UInt8 -> UInt8) (k : Nat) (l : List UInt8) (h : k < l.length) : (mixed f k l).set k (f l[k]) = mixed f (k + 1) l:=by
 unfold mixed;rw [List.take_succ_eq_append_getElem h,List.map_append,List.set_append_right _ _ (by simp; omega),List.append_assoc]
 congr 1
 have e : l.drop k = l[k] :: l.drop (k + 1):=List.drop_eq_getElem_cons h
 have e2 : k - ((l.take k).map f).length = 0:=by simp; omega
 rw [e2,e];rfl
theorem set_self {α : Type} (l : List α) (k : Nat) (h : k < l.length) : l.set k l[k] = l:=List.set_getElem_self h
theorem mixed_stay (f : UInt8 -> UInt8) (k : Nat) (l : List UInt8) (h : k < l.length) (hf : f l[k] = l[k]) : mixed f k l = mixed f (k + 1) l:=by
 rw [<- mixed_succ f k l h,hf];have:=set_self (mixed f k l) k (by rw [mixed_len]; exact h)
 rw [mixed_at f k l h] at this;exact this.symm
theorem mixed_zero (f : UInt8 -> UInt8) (l : List UInt8) : mixed f 0 l = l:=by simp [mixed]
theorem mixed_all (f : UInt8 -> UInt8) (l : List UInt8) : mixed f l.length l = l.map f:=by simp [mixed]
theorem lowU_up (c : UInt8) (h : upB c.toNat = true) : (((lowU c).toNat : Nat) : Int) = c.toNat + 32:=by
 unfold lowU; rw [if_pos h];unfold upB at h;have h':=of_decide_eq_true h
 have e : (c + 32).toNat = (c.toNat + 32) % 256:=by rw [UInt8.toNat_add]; rfl
 rw [e]; omega
theorem lowU_no (c : UInt8) (h : upB c.toNat = false) : lowU c = c:=by unfold lowU; rw [h]; rfl
theorem lower_any (s : ByteArray) (w : World) (hs : s.size <= maxLen) :
 Calls Tryz.prog 69 #[.string s] w fun e w'=>e = .returned (.string (lowS s)) ∧ Below w.heap.size w w':=by
 unfold maxLen at hs;have hconv:=run_bytes_of_string (P:=Tryz.prog) w 9 61 5 s Tryz.underlying9 Tryz.underlying61 Tryz.underlying5
 have hL:=Lies.conv w s (grownCap w s.size 0 5) 5
 have hB:=Below.conv w (.cells (bytesRow s (grownCap w s.size 0 5)) 5 ((bytesRow s (grownCap w s.size 0 5)).size,(bytesRow s (grownCap w s.size 0 5)).size + 1))
 generalize grownCap w s.size 0 5 = cap at *;generalize bytesRow s cap = C at *;have HL : Hid (Lies _ _ _):=hL
 clear hL;go_enter Tryz.func69,Tryz.ntmps69
 go_wp2
 go_loopw [10] (fun i wr=>∃ k : Nat,k <= s.size ∧ i = .int .i64 k ∧ Below w.heap.size w wr ∧ Lies wr w.heap.size (mixed lowU k s.data.toList)) (fun i _=>s.size - (intOf i).toNat)
 case atStart=>exact ⟨0,Nat.zero_le _,rfl,hB,by rw [mixed_zero]; exact HL.out⟩
 case round =>
  obtain ⟨k,hk,rfl,hb,hl⟩:=hrel
  clear hconv hB HL;by_cases hlt : k < s.size
  ·have hlt' : k < s.data.toList.length:=by simpa using hlt
   obtain ⟨hc,hf⟩:=hl k (by rw [mixed_len]; exact hlt')
   rw [mixed_at lowU k _ hlt'] at hc;have hm:=mixed_succ lowU k _ hlt'
   have hy:=mixed_stay lowU k _ hlt'
   have HM : Hid ((mixed lowU k s.data.toList).set k (lowU s.data.toList[k]) = mixed lowU (k + 1) s.data.toList):=hm
   have HY : Hid (lowU s.data.toList[k] = s.data.toList[k] -> mixed lowU k s.data.toList = mixed lowU (k + 1) s.data.toList):=hy
   clear hm hy;generalize s.data.toList[k] = c at *;by_cases hu : upB (c.toNat : Int) = true
   ·obtain ⟨g1,g2⟩:=of_decide_eq_true hu
    have hset:=hl.set k (lowU c) (by rw [mixed_len]; exact hlt')
    rw [HM.out,lowU_up c hu] at hset;have HS : Hid (Lies _ _ _):=hset
    clear hset hl;go_wp2_with (go_at_call 126; refine (up_any _ _).mono ?_; rintro e w' ⟨rfl,rfl⟩)
    go_roundw
    case rel=>exact ⟨k + 1,by omega,by go_num,hb.setCell (Nat.le_refl _) _,HS.out⟩
    case measure=>simp [intOf]; omega
   ·have hu' : upB (c.toNat : Int) = false:=by simpa using hu
    have hy:=HY.out (lowU_no c hu')
    rw [hy] at hl;clear hy HY HM hu;go_wp2_with (go_at_call 126; refine (up_any _ _).mono ?_; rintro e w' ⟨rfl,rfl⟩)
    go_roundw
    case rel=>exact ⟨k + 1,by omega,by go_num,hb,hl⟩
    case measure=>simp [intOf]; omega
  ·have e1 : mixed lowU k s.data.toList = s.data.toList.map lowU:=by
    have : k = s.data.toList.length:=by simp; omega
    rw [this,mixed_all]
   rw [e1] at hl;have hlen : (s.data.toList.map lowU).length = s.size:=by simp
   have hback:=run_convert_bytes_back (P:=Tryz.prog) wr 61 9 5 ⟨w.heap.size,0,none⟩ cap (s.data.toList.map lowU) Tryz.underlying61 Tryz.underlying5 Tryz.underlying9 (fun j hj=>by
    have h:=(hl j hj).1
    unfold Addr.add;by_cases hj0 : j = 0
    ·subst hj0; exact h
    ·rw [if_neg hj0]; simpa using h)
   rw [hlen] at hback;have hr : Hid ((⟨(s.data.toList.map lowU).toArray⟩ : ByteArray) = lowS s):=rfl
   generalize (⟨(s.data.toList.map lowU).toArray⟩ : ByteArray) = r at *;clear e1 hlen hl;go_wp2
   go_ret;exact ⟨ret_string hr.out,hb⟩
end Go.Proofs.YtkhipgcgcbhjoaaGreat.Oc
