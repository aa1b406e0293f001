import Derived.Test.YtbamhbfncddieaaPr14
namespace Go.Proofs.Ytbamhbfncddieaa.Pr
open Go.RowKit

/-- The reference's rows as they are read. -/
def RR3 (w : World) (g : Nat) (T : List R3) : Prop := g < w.heap.size ∧ ∀ k (h : k < T.length), w.cell? ⟨g, k * 3, none⟩ = some (.int .i64 T[k].1) ∧ w.cell? ⟨g, k * 3 + 1, none⟩ = some (.int .i64 T[k].2.1) ∧ w.cell? ⟨g, k * 3 + 2, none⟩ = some (.int .i64 T[k].2.2)
theorem rc3_at : ∀ (l : List R3) (j i : Nat) (h : j < l.length), i < 3 → (l.flatMap rc3)[j * 3 + i]? = (rc3 l[j])[i]?
  | [], _, _, h, _ => by simp at h
  | x :: l, 0, i, _, hi => by
    simp only [List.flatMap_cons, Nat.zero_mul, Nat.zero_add, List.getElem_cons_zero]
    rw [List.getElem?_append_left (by simp [rc3]; omega)]
  | x :: l, j + 1, i, h, hi => by
    have := rc3_at l j i (by simpa using h) hi
    rw [List.flatMap_cons, List.getElem?_append_right (by simp [rc3]; omega)]
    rw [show (j + 1) * 3 + i - (rc3 x).length = j * 3 + i by simp [rc3]; omega, this]
    rfl
theorem RR3.step {w w' : World} {g : Nat} {T : List R3} (h : RR3 w g T) (hb : Below w.heap.size w w') : RR3 w' g T :=
  ⟨Nat.lt_of_lt_of_le h.1 hb.size, fun k hk => ⟨(hb.cell (p := ⟨g, k * 3, none⟩) h.1).trans (h.2 k hk).1, (hb.cell (p := ⟨g, k * 3 + 1, none⟩) h.1).trans (h.2 k hk).2.1, (hb.cell (p := ⟨g, k * 3 + 2, none⟩) h.1).trans (h.2 k hk).2.2⟩⟩

/-- What the first row of a code point says. -/
def rdP (r : Int) : List R3 → Pt
  | [] => (0, 0, 0)
  | x :: l => if x.1 = r then valP x else rdP r l

/-- Excluded, as the reference tells it. -/
def rexq (T : List R3) (r : Int) : Bool := (rdP r T).2.2 == 1 || exB r

/-- Is it the second of a row that isn't excluded? -/
def rsB (A : List R3) (r : Int) : List R3 → Bool
  | [] => false
  | x :: l => if x.2.2 = r ∧ r ≠ 0 ∧ rexq A x.1 = false then true else rsB A r l
/-- What two make. -/
def rupP (A : List R3) (a b : Int) : List R3 → Int
  | [] => -1
  | x :: l => if x.2.1 = a ∧ x.2.2 = b ∧ b ≠ 0 ∧ rexq A x.1 = false then x.1 else rupP A a b l


end Go.Proofs.Ytbamhbfncddieaa.Pr
