import Derived.Test.YtbamhbfncddieaaUcd2
namespace Go.Proofs.Ytbamhbfncddieaa.Uc
open Go.RowKit

/-- A line as a value. -/
def lnv (x : Ln) : Value := .agg (cells7 x).toArray

/-- What the code points of a line have that are of a kind. -/
def hasP (x : Ln) (k : Int) : Tr := ⟨k, x.2.2.2.1, x.2.2.2.2.1, x.2.2.2.2.2.1, x.2.2.2.2.2.2⟩

/-- The kind of a code point in a line that is even (12) or odd. -/
def caseP (x : Ln) (r : Int) : Int := if ((r.tmod 2 == 0) == (x.2.2.1 == 12)) = true then 1 else 2

theorem has_any (w : World) (x : Ln) (k : Int) : Calls Try.prog 50 #[lnv x, .int .i64 k] w fun e w' => e = .returned (trv (hasP x k)) ∧ Below w.heap.size w w' := by
  obtain ⟨x1, x2, x3, x4, x5, x6, x7⟩ := x
  simp only [lnv, cells7, trv, hasP]
  go_enter Try.func50, Try.ntmps50
  go_wp2
  exact bodyPost_ret (v := trv ⟨k, x4, x5, x6, x7⟩) (results_cell_row Try.results50 _ _ (w.heap.size + 1) 60 _ (0, 0) _ rfl (by rw [← World.size_alloc w]; exact heap_alloc_new _ _) Try.underlying60 rfl (by kernel_rfl)) rfl
    ⟨rfl, ((Below.refl _ _).alloc (Nat.le_refl _) _).alloc (by simp) _⟩

theorem caseAt_any (w : World) (x : Ln) (r : Int) : Calls Try.prog 51 #[lnv x, .int .i32 r] w fun e w' => e = .returned (.int .i64 (caseP x r)) ∧ Below w.heap.size w w' := by
  obtain ⟨x1, x2, x3, x4, x5, x6, x7⟩ := x
  simp only [lnv, cells7, caseP]
  go_enter Try.func51, Try.ntmps51
  go_wp2
  all_goals go_ret
  · exact ⟨rfl, (Below.refl _ _).alloc (Nat.le_refl _) _⟩
  all_goals first | (simp_all; done) | exact ⟨rfl, (Below.refl _ _).alloc (Nat.le_refl _) _⟩
end Go.Proofs.Ytbamhbfncddieaa.Uc
