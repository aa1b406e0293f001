import Derived.Test.YtcnjgbjadbnjpabGreatUcd5
namespace Go.Proofs.YtcnjgbjadbnjpabGreat.Uc
open Go.RowKit

/-- A row of the reference as a value. -/
def rlv (x : Ln) : Value := .agg (rcells7 x).toArray

/-- The kind of a code point in a row. -/
def rkindP (x : Ln) (r : Int) : Int := if x.2.2.1 = 12 then wrap64 (1 + r.tmod 2) else if x.2.2.1 = 13 then wrap64 (2 - r.tmod 2) else x.2.2.1

theorem rkind_any (w : World) (x : Ln) (r : Int) : Calls Tryz.prog 45 #[rlv x, .int .i64 r] w fun e w' => e = .returned (.int .i64 (rkindP x r)) ∧ Below w.heap.size w w' := by
  obtain ⟨x1, x2, x3, x4, x5, x6, x7⟩ := x
  simp only [rlv, rcells7]
  by_cases h1 : x3 = 12
  · have H : Hid (rkindP (x1, x2, x3, x4, x5, x6, x7) r = wrap64 (1 + r.tmod 2)) := if_pos h1
    go_enter Tryz.func45, Tryz.ntmps45
    go_wp2
    go_ret
    exact ⟨ret_int H.out.symm, (Below.refl _ _).alloc (Nat.le_refl _) _⟩
  · by_cases h2 : x3 = 13
    · have H : Hid (rkindP (x1, x2, x3, x4, x5, x6, x7) r = wrap64 (2 - r.tmod 2)) := (if_neg h1).trans (if_pos h2)
      go_enter Tryz.func45, Tryz.ntmps45
      go_wp2
      go_ret
      exact ⟨ret_int H.out.symm, (Below.refl _ _).alloc (Nat.le_refl _) _⟩
    · have H : Hid (rkindP (x1, x2, x3, x4, x5, x6, x7) r = x3) := (if_neg h1).trans (if_neg h2)
      go_enter Tryz.func45, Tryz.ntmps45
      go_wp2
      go_ret
      exact ⟨ret_int H.out.symm, (Below.refl _ _).alloc (Nat.le_refl _) _⟩
end Go.Proofs.YtcnjgbjadbnjpabGreat.Uc
