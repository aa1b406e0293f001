import Derived.Test.YtemdmalcoemhnabUcd11
namespace Go.Proofs.Ytemdmalcoemhnab.Uc
open Go.RowKit

/-- The lines as they are read. -/
def LIn (w : World) (g : Nat) (T : List Ln) : Prop := g < w.heap.size ∧ ∀ k (h : k < T.length) i, i < 7 → w.cell? ⟨g, k * 7 + i, none⟩ = (cells7 T[k])[i]?

theorem cells7_at : ∀ (l : List Ln) (j i : Nat) (h : j < l.length), i < 7 → (l.flatMap cells7)[j * 7 + i]? = (cells7 l[j])[i]?
  | [], _, _, h, _ => by simp at h
  | x :: l, 0, i, _, hi => by
    simp only [List.flatMap_cons, Nat.zero_mul, Nat.zero_add, List.getElem_cons_zero]
    rw [List.getElem?_append_left (by simp [cells7]; omega)]
  | x :: l, j + 1, i, h, hi => by
    have := cells7_at l j i (by simpa using h) hi
    rw [List.flatMap_cons, List.getElem?_append_right (by simp [cells7]; omega)]
    rw [show (j + 1) * 7 + i - (cells7 x).length = j * 7 + i by simp [cells7]; omega, this]
    rfl

theorem lin_of_own {w : World} {B : Nat} {v : Value} {T : List Ln} (h : w.ownsRow B 78 7 v T.length (T.flatMap cells7)) (h0 : 0 < T.length) : ∃ g cap, v = .slice (some ⟨g, 0, none⟩) T.length cap ∧ LIn w g T := by
  rcases h.2 with ⟨_, h2⟩ | ⟨g, cap, cur, rfl, h2, h3, h4, h5, h6, h7⟩
  · omega
  · exact ⟨g, cap, rfl, (Array.getElem?_eq_some_iff.1 h3).1, fun k hk i hi => (h.cellAt (k * 7 + i) (by omega)).trans (cells7_at T k i hk hi)⟩

/-- A line's local copy. -/
def LocL (lb : Nat) (x : Ln) (w : World) : Prop := w.cell? ⟨lb, 0, none⟩ = some (.int .i32 x.1) ∧ w.cell? ⟨lb, 1, none⟩ = some (.int .i32 x.2.1) ∧ w.cell? ⟨lb, 2, none⟩ = some (.int .i64 x.2.2.1) ∧ w.cell? ⟨lb, 3, none⟩ = some (.int .i64 x.2.2.2.1) ∧ w.cell? ⟨lb, 4, none⟩ = some (.int .i64 x.2.2.2.2.1) ∧ w.cell? ⟨lb, 5, none⟩ = some (.int .i64 x.2.2.2.2.2.1) ∧ w.cell? ⟨lb, 6, none⟩ = some (.int .i64 x.2.2.2.2.2.2)
theorem LocL.of_block {lb : Nat} {x : Ln} {w w' : World} (h : LocL lb x w) (e : w'.heap[lb]? = w.heap[lb]?) : LocL lb x w' := by
  unfold LocL
  rw [World.cell?_of_block (a := ⟨lb, 0, none⟩) e, World.cell?_of_block (a := ⟨lb, 1, none⟩) e, World.cell?_of_block (a := ⟨lb, 2, none⟩) e, World.cell?_of_block (a := ⟨lb, 3, none⟩) e, World.cell?_of_block (a := ⟨lb, 4, none⟩) e, World.cell?_of_block (a := ⟨lb, 5, none⟩) e, World.cell?_of_block (a := ⟨lb, 6, none⟩) e]; exact h
theorem LocL.lt {lb : Nat} {x : Ln} {w : World} (h : LocL lb x w) : lb < w.heap.size := World.block_lt_of_cell? w _ h.1
theorem LocL.step {lb : Nat} {x : Ln} {w w' : World} (h : LocL lb x w) (hb : Below w.heap.size w w') : LocL lb x w' := h.of_block (hb.block lb h.lt)
theorem LocL.alloc {lb : Nat} {x : Ln} {w : World} (h : LocL lb x w) (o : Obj) : LocL lb x (w.alloc o) := h.of_block (Below.heap_alloc _ _ _ h.lt)
theorem LocL.new (w : World) (x : Ln) (t : TypeId) : LocL w.heap.size x (w.alloc (.cells #[.int .i32 x.1, .int .i32 x.2.1, .int .i64 x.2.2.1, .int .i64 x.2.2.2.1, .int .i64 x.2.2.2.2.1, .int .i64 x.2.2.2.2.2.1, .int .i64 x.2.2.2.2.2.2] t)) := by
  unfold LocL
  rw [cell_new _ _ _ _ _ rfl, cell_new _ _ _ _ _ rfl, cell_new _ _ _ _ _ rfl, cell_new _ _ _ _ _ rfl, cell_new _ _ _ _ _ rfl, cell_new _ _ _ _ _ rfl, cell_new _ _ _ _ _ rfl]
  exact ⟨rfl, rfl, rfl, rfl, rfl, rfl, rfl⟩

theorem case_snoc (x : Ln) : ∀ (n : Nat) (r : Int), caseRows x r (n + 1) = caseRows x r n ++ [⟨r + n, r + n, hasP x (caseP x (r + n))⟩]
  | 0, r => by simp [caseRows]
  | n + 1, r => by
    rw [caseRows, case_snoc x n (r + 1), caseRows]
    have e : r + 1 + (n : Int) = r + ((n + 1 : Nat) : Int) := by omega
    rw [e]; rfl
theorem case_len (x : Ln) : ∀ (n : Nat) (r : Int), (caseRows x r n).length = n
  | 0, _ => rfl
  | n + 1, r => by rw [caseRows, List.length_cons, case_len x n]

theorem own_below {w w' : World} {B n size : Nat} {e : TypeId} {v : Value} {xs : List Value} (h : w.ownsRow B e size v n xs) (hb : Below w.heap.size w w') : w'.ownsRow B e size v n xs :=
  ⟨h.1, h.2.imp id fun ⟨g, cap, cur, h1, h2, h3, h4⟩ => ⟨g, cap, cur, h1, h2, (hb.block g (Array.getElem?_eq_some_iff.1 h3).1).trans h3, h4⟩⟩

/-- What assigned has put. -/
structure AsgW (w : World) (T : List Ln) (out : List (SRow Tr)) (ov : Value) (wr : World) : Prop where
  own : wr.ownsRow w.heap.size 76 7 ov out.length (out.flatMap tr7)
  bel : Below w.heap.size w wr
  most : out.length ≤ 4000

theorem asg_snoc (T : List Ln) (k : Nat) (h : k < T.length) : asgP (T.take (k + 1)) = asgP (T.take k) ++ lineRows T[k] := by
  unfold asgP
  rw [List.take_succ_eq_append_getElem h, List.flatMap_append]; simp
theorem asg_le (T : List Ln) (k : Nat) : (asgP (T.take k)).length ≤ (asgP T).length := by
  have : asgP T = asgP (T.take k) ++ asgP (T.drop k) := by unfold asgP; rw [← List.flatMap_append, List.take_append_drop]
  rw [this, List.length_append]; omega
end Go.Proofs.Ytemdmalcoemhnab.Uc
