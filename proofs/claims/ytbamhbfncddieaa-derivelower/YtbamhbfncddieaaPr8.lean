import Derived.Test.YtbamhbfncddieaaPr7
namespace Go.Proofs.Ytbamhbfncddieaa.Pr
open Go.RowKit Go.Lib

section
variable {w : World} {p d u s sz : Nat} {L : List R3}

theorem bel_dn {B : Nat} {a w : World} (h : Below B a w) (n : Nat) : Below B a (w.drewN n) := h.trans ⟨rfl, rfl, rfl, Nat.le_refl _, fun _ _ => rfl⟩

set_option maxHeartbeats 1000000 in
theorem down_any (h : PW w p d u s L sz) {r : Int} (hr : I32 r) {x1 x2 x3 : Int} (hx : (dnF L r).getD (0, 0, 0) = (x1, x2, x3)) :
    Calls Try.prog 97 #[.pointer (some ⟨p, 0, none⟩), .int .i32 r] w fun e w' => e = .returned (.tuple #[.int .i32 x1, .int .i32 x2, .int .i64 x3]) ∧ Below w.heap.size w w' := by
  obtain ⟨c0, _, _⟩ := h.cells
  obtain ⟨n, _, hd⟩ := h.dn
  have hlk := hd.look hr
  clear h hd
  rw [hx] at hlk
  clear hx
  unfold pv at hlk
  simp only at hlk
  go_enter Try.func97, Try.ntmps97
  go_wp2
  go_quiet (fail)
  go_wp2
  go_ret3
  exact ⟨rfl, bel_dn ((Below.refl _ _).alloc (Nat.le_refl _) _) _⟩

theorem up_any (h : PW w p d u s L sz) {a b : Int} (ha : I32 a) (hb : I32 b) {x : Int} {t : Bool} (hx : (upF L (a, b)).getD 0 = x) (ht : (upF L (a, b)).isSome = t) :
    Calls Try.prog 94 #[.pointer (some ⟨p, 0, none⟩), .int .i32 a, .int .i32 b] w fun e w' => e = .returned (.tuple #[.int .i32 x, .bool t]) ∧ w' = w := by
  obtain ⟨_, c1, _⟩ := h.cells
  obtain ⟨n, _, hd⟩ := h.up
  have hlk := hd.look ha hb
  clear h hd
  rw [hx, ht] at hlk
  clear hx ht
  go_enter Try.func94, Try.ntmps94
  go_wp2
  go_ret2
  exact ⟨rfl, rfl⟩


end
end Go.Proofs.Ytbamhbfncddieaa.Pr
