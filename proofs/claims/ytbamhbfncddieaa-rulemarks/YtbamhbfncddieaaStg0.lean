import Derived.Test.YtbamhbfncddieaaBase
import Derived.Maps.OwnSet
import Derived.Maps.AppendAt
import Derived.Deep.OwnRows
import Derived.DeepKeys4
import Derived.Laws.OwnMore
namespace Go.Proofs.Ytbamhbfncddieaa.Uc
open Go.RowKit

theorem hid {p : Prop} (h : p) : Hid p := h

/-- All but the blocks of S, and what is new, is as it was. -/
structure Chg (S : Nat → Prop) (w w' : World) : Prop where
  os : w'.os = w.os
  tape : w'.tape = w.tape
  output : w'.output = w.output
  size : w.heap.size ≤ w'.heap.size
  block : ∀ k, k < w.heap.size → ¬ S k → w'.heap[k]? = w.heap[k]?

namespace Chg
variable {S T : Nat → Prop} {u v w : World}
theorem refl (S : Nat → Prop) (w : World) : Chg S w w := ⟨rfl, rfl, rfl, Nat.le_refl _, fun _ _ _ => rfl⟩
theorem trans (h : Chg S u v) (k : Chg S v w) : Chg S u w :=
  ⟨k.os.trans h.os, k.tape.trans h.tape, k.output.trans h.output, Nat.le_trans h.size k.size, fun i hi hs => (k.block i (Nat.lt_of_lt_of_le hi h.size) hs).trans (h.block i hi hs)⟩
/-- The step behind may turn more, if that is new to the first world. -/
theorem andThen (h : Chg S u v) (k : Chg T v w) (ht : ∀ i, i < u.heap.size → T i → S i) : Chg S u w :=
  ⟨k.os.trans h.os, k.tape.trans h.tape, k.output.trans h.output, Nat.le_trans h.size k.size, fun i hi hs => (k.block i (Nat.lt_of_lt_of_le hi h.size) (fun e => hs (ht i hi e))).trans (h.block i hi hs)⟩
theorem drew (h : Chg S u v) : Chg S u v.drew := ⟨h.os, h.tape, h.output, h.size, h.block⟩
theorem alloc (h : Chg S u v) (o : Obj) : Chg S u (v.alloc o) :=
  h.trans ⟨rfl, rfl, rfl, by simp, fun k hk _ => Below.heap_alloc _ _ _ hk⟩
theorem setCell (h : Chg S u v) {p : Addr} (hp : p.block < u.heap.size → S p.block) (x : Value) : Chg S u (v.setCell p x) :=
  ⟨h.os, h.tape, h.output, by have := h.size; simpa [World.setCell] using this, fun k hk hs => (Below.heap_setCell _ _ _ _ (fun e => hs (by rw [e]; exact hp (by rw [← e]; exact hk)))).trans (h.block k hk hs)⟩
theorem grown (h : Chg S u v) {row : Option Nat} (hg : v.grownBy w row) (hr : ∀ k, row = some k → k < u.heap.size → S k) : Chg S u w :=
  ⟨hg.os.trans h.os, hg.tape.trans h.tape, hg.output.trans h.output, Nat.le_trans h.size hg.size, fun k hk hs => (hg.block k (Nat.lt_of_lt_of_le hk h.size) (fun e => hs (hr k e.symm hk))).trans (h.block k hk hs)⟩
theorem below (h : Chg S u v) (B : Nat) (hB : B ≤ u.heap.size) (hS : ∀ k, S k → B ≤ k) : Below B u v :=
  ⟨h.os, h.tape, h.output, h.size, fun k hk => h.block k (by omega) (fun e => by have := hS k e; omega)⟩
theorem of_below (h : Below u.heap.size u v) : Chg S u v := ⟨h.os, h.tape, h.output, h.size, fun k hk _ => h.block k hk⟩
theorem mono (h : Chg S u v) (hs : ∀ k, k < u.heap.size → S k → T k) : Chg T u v := ⟨h.os, h.tape, h.output, h.size, fun k hk e => h.block k hk (fun x => e (hs k hk x))⟩
theorem step (h : Chg S u v) (k : Below v.heap.size v w) : Chg S u w := h.trans (.of_below k)
end Chg

theorem below_of_grown {w w' : World} {row : Option Nat} (hg : w.grownBy w' row) (B : Nat) (hB : B ≤ w.heap.size) (hr : ∀ k, row = some k → B ≤ k) : Below B w w' :=
  (Below.refl B w).grown hg hB hr

/-- The rows of the program. -/
structure SRow (α : Type) where
  f : Int
  t : Int
  v : α

/-- The first fault of rows; the To ahead is known. -/
def chk {α : Type} : Int → List (SRow α) → Int
  | _, [] => 0
  | a, r :: l => if r.f < 0 ∨ r.t < r.f ∨ 1114111 < r.t then 7 else if r.f ≤ a then 9 else chk r.t l

def check {α : Type} (l : List (SRow α)) : Int := if 4096 < l.length then 10 else chk (-1) l

/-- What the last row with r says; else z. -/
def at' {α : Type} (z : α) (l : List (SRow α)) (r : Int) : α := l.foldl (fun a x => if x.f ≤ r ∧ r ≤ x.t then x.v else a) z

theorem at_snoc {α : Type} (z : α) (l : List (SRow α)) (x : SRow α) (r : Int) : at' z (l ++ [x]) r = if x.f ≤ r ∧ r ≤ x.t then x.v else at' z l r := by
  simp [at', List.foldl_append]

/-- Rising rows, all behind a. -/
def Rising {α : Type} : Int → List (SRow α) → Prop
  | _, [] => True
  | a, r :: l => a < r.f ∧ r.f ≤ r.t ∧ r.t ≤ 1114111 ∧ Rising r.t l

theorem rising_of_chk {α : Type} : ∀ (l : List (SRow α)) (a : Int), -1 ≤ a → chk a l = 0 → Rising a l
  | [], _, _, _ => trivial
  | r :: l, a, ha, h => by
    unfold chk at h
    split at h
    · simp at h
    · split at h
      · simp at h
      · exact ⟨by omega, by omega, by omega, rising_of_chk l r.t (by omega) h⟩

end Go.Proofs.Ytbamhbfncddieaa.Uc
