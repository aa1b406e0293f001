import Derived.Test.YtemdmalcoemhnabUcd14
namespace Go.Proofs.Ytemdmalcoemhnab.Uc
open Go.RowKit

/-- Runes as they are read. -/
def RunesIn (w : World) (a : Option Addr) (zs : List Int) : Prop := ∀ k (h : k < zs.length), ∃ b off, a = some ⟨b, off, none⟩ ∧ b < w.heap.size ∧ w.cell? ⟨b, off + k, none⟩ = some (.int .i32 zs[k])


/-- What P6.2 says of what a code point has. -/
def markB (x : Tr) : Bool := (x.d == 0 || x.a == 5) && (!(x.a == 0) || (x.d == 0 && x.b == 0 && x.c == 0 && x.e == 0))

theorem at_cons {α : Type} (z : α) (x : SRow α) (l : List (SRow α)) (r : Int) : at' z (x :: l) r = at' (if x.f ≤ r ∧ r ≤ x.t then x.v else z) l r := rfl

theorem at_or (P : Tr → Bool) (r : Int) : ∀ (l : List (SRow Tr)) (z : Tr), P z = true → l.all (fun x => P x.v) = true → P (at' z l r) = true
  | [], _, hz, _ => hz
  | x :: l, z, hz, h => by
    rw [List.all_cons, Bool.and_eq_true] at h
    rw [at_cons]
    refine at_or P r l _ ?_ h.2
    split
    · exact h.1
    · exact hz

theorem get_or (P : Tr → Bool) (l : List (SRow Tr)) (z : Tr) (r : Int) (hz : P z = true) (h : l.all (fun x => P x.v) = true) : P (getV z l r) = true := by
  unfold getV
  split
  · exact hz
  · exact at_or P r l z hz h

set_option maxRecDepth 1000000 in
theorem book_marks : bookL.all (fun x => markB x.v) = true := by kernel_rfl

theorem marks_facts (r : Int) : markB (getV zTr bookL r) = true := get_or markB bookL zTr r (by decide) book_marks
end Go.Proofs.Ytemdmalcoemhnab.Uc
