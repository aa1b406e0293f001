import Derived.Test.YtemdmalcoemhnabUcd15
namespace Go.Proofs.Ytemdmalcoemhnab.Uc
open Go.RowKit

def zLn : Ln := (0, 0, 0, 0, 0, 0, 0)
/-- The first row that holds a code point. -/
def findL (r : Int) : List Ln → Ln
  | [] => zLn
  | x :: xs => if x.1 ≤ r ∧ r ≤ x.2.1 then x else findL r xs

theorem rcells7_len (l : List Ln) : (l.flatMap rcells7).length = l.length * 7 := by
  induction l with
  | nil => rfl
  | cons x l ih => simp only [List.flatMap_cons, List.length_append, ih, List.length_cons, rcells7, List.length_nil]; omega
theorem rcells7_at : ∀ (l : List Ln) (j i : Nat) (h : j < l.length), i < 7 → (l.flatMap rcells7)[j * 7 + i]? = (rcells7 l[j])[i]?
  | [], _, _, h, _ => by simp at h
  | x :: l, 0, i, _, hi => by
    simp only [List.flatMap_cons, Nat.zero_mul, Nat.zero_add, List.getElem_cons_zero]
    rw [List.getElem?_append_left (by simp [rcells7]; omega)]
  | x :: l, j + 1, i, h, hi => by
    have := rcells7_at l j i (by simpa using h) hi
    rw [List.flatMap_cons, List.getElem?_append_right (by simp [rcells7]; omega)]
    rw [show (j + 1) * 7 + i - (rcells7 x).length = j * 7 + i by simp [rcells7]; omega, this]
    rfl
/-- The reference's rows as they are read. -/
def RLIn (w : World) (g : Nat) (T : List Ln) : Prop := ∀ k (h : k < T.length) i, i < 7 → w.cell? ⟨g, k * 7 + i, none⟩ = (rcells7 T[k])[i]?
theorem RLIn.new (w : World) (T : List Ln) (t : TypeId) (g : Nat) (hg : g = w.heap.size) : RLIn (w.alloc (.cells (T.flatMap rcells7).toArray t)) g T := fun k hk i hi => by
  rw [cell_new _ _ _ _ _ hg, List.getElem?_toArray, rcells7_at T k i hk hi]

/-- The row that the reference tells of a code point. -/
def rrowP (r : Int) : Ln :=
  if r ≤ 184 then findL r (part 0) else if r ≤ 819 then findL r (part 1) else if r ≤ 1576 then findL r (part 2) else if r ≤ 1747 then findL r (part 3) else if r ≤ 12293 then findL r (part 4) else if r ≤ 128591 then findL r (part 5) else if r ≤ 1114109 then findL r (part 6) else zLn

end Go.Proofs.Ytemdmalcoemhnab.Uc
