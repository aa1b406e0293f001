import Derived.Test.YtkhipgcgcbhjoaaGreatProg
import Derived.WalkKit
import Derived.ProofKit
import Derived.WalkSpells
import Derived.WalkLawsBesides
import Derived.Laws.IdiomStrings
namespace Go.Proofs.YtkhipgcgcbhjoaaGreat
open Go.RowKit
theorem ret_bool {a b : Bool} (h : a = b) : Ending.returned (.bool a) = .returned (.bool b):=by rw [h]
theorem ret_int {k : IntKind} {a b : Int} (h : a = b) : Ending.returned (.int k a) = .returned (.int k b):=by rw [h]
theorem ret_string {a b : ByteArray} (h : a = b) : Ending.returned (.string a) = .returned (.string b):=by rw [h]
theorem take_snoc (s : ByteArray) (k : Nat) (h : k < s.size) : s.data.toList.take (k + 1) = s.data.toList.take k ++ [s[k]]:=by rw [List.take_succ_eq_append_getElem (by simpa using h)]; rfl
theorem dt {p : Prop} [Decidable p] (h : p) : true = decide p:=(decide_eq_true h).symm
theorem df {p : Prop} [Decidable p] (h : ¬ p) : false = decide p:=(decide_eq_false h).symm
theorem byte_le (x : UInt8) : (x.toNat : Int) <= 255:=by have:=x.toNat_lt; omega
theorem ret_two {a b c d : Value} (h : a = b) (h' : c = d) : Ending.returned (.tuple #[a,c]) = .returned (.tuple #[b,d]):=by rw [h,h']
theorem int_eq {k : IntKind} {a b : Int} (h : a = b) : Value.int k a = Value.int k b:=by rw [h]
theorem Below.conv (w : World) (o : Obj) : Below w.heap.size w (w.alloc o).drew:=((Below.refl _ _).alloc (Nat.le_refl _) o).drew
def eqS (a b : ByteArray) : Bool:=a.toList == b.toList
def Ok (B : Nat) (W0 w : World) : Prop:=Below B W0 w ∧ B <= w.heap.size
theorem Ok.start (w : World) : Ok w.heap.size w w:=⟨Below.refl _ _,Nat.le_refl _⟩
theorem Ok.step {B : Nat} {W0 w w' : World} (h : Ok B W0 w) (h' : Below w.heap.size w w') : Ok B W0 w':=⟨h.1.trans (h'.mono h.2),Nat.le_trans h.2 h'.size⟩
theorem Ok.alloc {B : Nat} {W0 w : World} {o : Obj} (h : Ok B W0 w) : Ok B W0 (w.alloc o):=h.step ((Below.refl _ _).alloc (Nat.le_refl _) _)
theorem ext_list (s : ByteArray) (a b : Nat) : (s.extract a b).data.toList = (s.data.toList.drop a).take (b - a):=by rw [ByteArray.data_extract,Array.toList_extract,List.extract]
theorem ext_end (s : ByteArray) (a : Nat) : (s.extract a s.size).data.toList = s.data.toList.drop a:=by rw [ext_list,List.take_of_length_le (by simp)]
theorem len_size (s : ByteArray) : s.data.toList.length = s.size:=by simp
end Go.Proofs.YtkhipgcgcbhjoaaGreat
namespace Go.Proofs.YtkhipgcgcbhjoaaGreat
namespace Od
section
variable (c : Int -> Int)
def ins (x : Int) : List Int -> List Int
 | []=>[x]
 | y :: l=>if 0 < c y ∧ c y < c x then y :: ins x l else x :: y :: l
def srt : List Int -> List Int
 | []=>[]
 | x :: l=>ins c x (srt l)
def Ord : List Int -> Prop
 | []=>True
 | [_]=>True
 | x :: y :: l=>¬ (0 < c y ∧ c y < c x) ∧ Ord (y :: l)
theorem Ord.tail {x : Int} {l : List Int} (h : Ord c (x :: l)) : Ord c l:=by
 cases l with
 | nil=>trivial
 | cons y l=>exact h.2
theorem ins_comm (a b : Int) (h0 : 0 < c b) (h : c b < c a) : ∀ m,ins c a (ins c b m) = ins c b (ins c a m)
 | []=>by
  simp only [ins]
  rw [if_pos ⟨h0,h⟩,if_neg (by omega)]
 | y :: m=>by
  simp only [ins]
  by_cases h1 : 0 < c y ∧ c y < c b
  ·rw [if_pos h1,if_pos (show 0 < c y ∧ c y < c a by omega)]
   simp only [ins]
   rw [if_pos (show 0 < c y ∧ c y < c a by omega),if_pos h1,ins_comm a b h0 h m]
  ·rw [if_neg h1];by_cases h2 : 0 < c y ∧ c y < c a
   ·rw [if_pos h2];simp only [ins]
    rw [if_pos ⟨h0,h⟩,if_pos h2,if_neg h1]
   ·rw [if_neg h2];simp only [ins]
    rw [if_pos ⟨h0,h⟩,if_neg h2,if_neg (by omega)]
def Sw (l m : List Int) : Prop:=∀ R : List Int -> Prop,R l -> (∀ (A : List Int) (a b : Int) (B : List Int),0 < c b -> c b < c a -> R (A ++ a :: b :: B) -> R (A ++ b :: a :: B)) -> R m
theorem Sw.refl {c : Int -> Int} (l : List Int) : Sw c l l:=fun _ h _=>h
theorem Sw.step {c : Int -> Int} {l : List Int} (A : List Int) (a b : Int) (B : List Int) (h0 : 0 < c b) (h1 : c b < c a) (h : Sw c l (A ++ a :: b :: B)) : Sw c l (A ++ b :: a :: B):=fun R hr hs=>hs A a b B h0 h1 (h R hr hs)
theorem Sw.trans {c : Int -> Int} {l m n : List Int} (h : Sw c l m) (k : Sw c m n) : Sw c l n:=k (fun x=>Sw c l x) h (fun A a b B h0 h1 ih=>.step A a b B h0 h1 ih)
theorem Sw.one {c : Int -> Int} (A : List Int) (a b : Int) (B : List Int) (h0 : 0 < c b) (h1 : c b < c a) : Sw c (A ++ a :: b :: B) (A ++ b :: a :: B):=.step A a b B h0 h1 (.refl _)
theorem Sw.ctx {c : Int -> Int} {l m : List Int} (h : Sw c l m) (X Y : List Int) : Sw c (X ++ l ++ Y) (X ++ m ++ Y):=by
 refine h (fun x=>Sw c (X ++ l ++ Y) (X ++ x ++ Y)) (.refl _) (fun A a b B h0 h1 ih=>?_)
 ·have e : X ++ (A ++ a :: b :: B) ++ Y = (X ++ A) ++ a :: b :: (B ++ Y):=by simp
  have e' : X ++ (A ++ b :: a :: B) ++ Y = (X ++ A) ++ b :: a :: (B ++ Y):=by simp
  show Sw c _ (X ++ (A ++ b :: a :: B) ++ Y)
  rw [e'];replace ih : Sw c (X ++ l ++ Y) (X ++ (A ++ a :: b :: B) ++ Y):=ih
  rw [e] at ih;exact .step _ a b _ h0 h1 ih
theorem Sw.cons {c : Int -> Int} {l m : List Int} (h : Sw c l m) (x : Int) : Sw c (x :: l) (x :: m):=by simpa using h.ctx [x] []
theorem srt_pre {l m : List Int} (h : srt c l = srt c m) : ∀ A,srt c (A ++ l) = srt c (A ++ m)
 | []=>h
 | x :: A=>by simp only [List.cons_append,srt]; rw [srt_pre h A]
theorem Sw.srt_eq {c : Int -> Int} {l m : List Int} (h : Sw c l m) : srt c m = srt c l:=by
 refine h (fun x=>srt c x = srt c l) rfl (fun A a b B h0 h1 ih=>?_)
 ·show srt c (A ++ b :: a :: B) = _
  rw [<- ih];refine srt_pre c ?_ A
  simp only [srt]
  exact (ins_comm c a b h0 h1 _).symm
theorem Sw.perm {c : Int -> Int} {l m : List Int} (h : Sw c l m) : l.Perm m:=by exact h (fun x=>l.Perm x) (.refl _) (fun A a b B _ _ ih=>ih.trans ((List.Perm.swap b a B).append_left A))
theorem Sw.len {c : Int -> Int} {l m : List Int} (h : Sw c l m) : m.length = l.length:=h.perm.length_eq.symm
theorem ins_ord (x : Int) (y : Int) (l : List Int) : ¬ (0 < c y ∧ c y < c x) -> ins c x (y :: l) = x :: y :: l:=fun h=>if_neg h
theorem Ord.srt_eq {c : Int -> Int} : ∀ {l : List Int},Ord c l -> srt c l = l
 | [],_=>rfl
 | [_],_=>rfl
 | x :: y :: l,h=>by rw [srt,Ord.srt_eq h.2];exact ins_ord c x y l h.1
theorem ins_head (x : Int) : ∀ (l : List Int),∃ z r,ins c x l = z :: r ∧ (z = x ∨ ∃ m,l = z :: m)
 | []=>⟨x,[],rfl,.inl rfl⟩
 | y :: l=>by
  simp only [ins]
  split
  ·exact ⟨y,_,rfl,.inr ⟨l,rfl⟩⟩
  ·exact ⟨x,_,rfl,.inl rfl⟩
theorem ord_ins (x : Int) : ∀ (l : List Int),Ord c l -> Ord c (ins c x l)
 | [],_=>trivial
 | y :: l,h=>by
  simp only [ins]
  split
  ·rename_i hh
   have ih:=ord_ins x l h.tail
   obtain ⟨z,r,e,hz⟩:=ins_head c x l
   rw [e] at ih ⊢
   refine ⟨?_,ih⟩
   rcases hz with rfl | ⟨m,rfl⟩
   ·omega
   ·exact h.1
  ·rename_i hh
   exact ⟨hh,h⟩
theorem ord_srt : ∀ (l : List Int),Ord c (srt c l)
 | []=>trivial
 | x :: l=>ord_ins c x _ (ord_srt l)
theorem sw_ins (x : Int) : ∀ (l : List Int),Sw c (x :: l) (ins c x l)
 | []=>.refl _
 | y :: l=>by
  simp only [ins]
  split
  ·rename_i hh
   exact (Sw.one [] x y l hh.1 hh.2).trans ((sw_ins x l).cons y)
  ·exact .refl _
theorem sw_srt : ∀ (l : List Int),Sw c l (srt c l)
 | []=>.refl _
 | x :: l=>((sw_srt l).cons x).trans (sw_ins c x _)
theorem Sw.fin {c : Int -> Int} {l m : List Int} (h : Sw c l m) (ho : Ord c m) : m = srt c l:=by rw [<- h.srt_eq,ho.srt_eq]
theorem ord_iff (l : List Int) : Ord c l ↔ srt c l = l:=⟨fun h=>h.srt_eq,fun h=>h ▸ ord_srt c l⟩
theorem sw_through (y : Int) (h0 : 0 < c y) : ∀ (X : List Int),(∀ x ∈ X,c y < c x) -> Sw c (X ++ [y]) (y :: X)
 | [],_=>.refl _
 | x :: X,h=>((sw_through y h0 X (fun z hz=>h z (by simp [hz]))).cons x).trans (Sw.one [] x y X h0 (h x (by simp)))
theorem sw_blocks : ∀ (Y X : List Int),(∀ y ∈ Y,0 < c y) -> (∀ x ∈ X,∀ y ∈ Y,c y < c x) -> Sw c (X ++ Y) (Y ++ X)
 | [],X,_,_=>by simpa using Sw.refl X
 | y :: Y,X,h0,h=>by
  have h1:=(sw_through c y (h0 y (by simp)) X (fun x hx=>h x hx y (by simp))).ctx [] Y
  have h2:=(sw_blocks Y X (fun z hz=>h0 z (by simp [hz])) (fun x hx z hz=>h x hx z (by simp [hz]))).cons y
  simp only [List.nil_append,List.append_assoc,List.cons_append] at h1 h2 ⊢
  exact h1.trans h2
def stepR (s : List (Nat × Nat) × Option Nat × Nat) (x : Int) : List (Nat × Nat) × Option Nat × Nat :=
 if c x = 0 then (match s.2.1 with | none=>s.1 | some f=>s.1 ++ [(f,s.2.2)],none,s.2.2 + 1) else (s.1,some (s.2.1.getD s.2.2),s.2.2 + 1)
def stR (l : List Int) : List (Nat × Nat) × Option Nat × Nat:=l.foldl (stepR c) ([],none,0)
def finR (s : List (Nat × Nat) × Option Nat × Nat) : List (Nat × Nat):=match s.2.1 with | none=>s.1 | some f=>s.1 ++ [(f,s.2.2)]
def runsP (l : List Int) : List (Nat × Nat):=finR (stR c l)
theorem stR_snoc (l : List Int) (x : Int) : stR c (l ++ [x]) = stepR c (stR c l) x:=by unfold stR; rw [List.foldl_append]; rfl
theorem stR_take (l : List Int) (k : Nat) (h : k < l.length) : stR c (l.take (k + 1)) = stepR c (stR c (l.take k)) l[k]:=by rw [List.take_succ_eq_append_getElem h,stR_snoc]
end
end Od
end Go.Proofs.YtkhipgcgcbhjoaaGreat
