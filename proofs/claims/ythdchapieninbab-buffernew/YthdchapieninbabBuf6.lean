import Derived.Test.YthdchapieninbabBuf5
namespace Go.Proofs.Ythdchapieninbab
open Go.RowKit

section
variable {B b : Nat} {l : List UInt8} {room : Nat} {full : Bool} {w : World}
theorem left_bel (h : Buf B b l room full w) :
    Calls Try.prog 14 #[.pointer (some ⟨b, 0, none⟩)] w fun e w' => e = .returned (.int .i64 (leftI l room full)) ∧ Below w.heap.size w w' :=
  (left_any h).mono fun _ _ ⟨h1, n, h2⟩ => ⟨h1, by rw [h2]; exact below_drewN (Below.refl _ _) n⟩
theorem last_bel (h : Buf B b l room full w) :
    Calls Try.prog 19 #[.pointer (some ⟨b, 0, none⟩)] w fun e w' => e = .returned (.tuple #[.int .u8 (lastI l), .bool (l.length != 0)]) ∧ Below w.heap.size w w' :=
  (last_any h).mono fun _ _ ⟨h1, n, h2⟩ => ⟨h1, by rw [h2]; exact below_drewN (Below.refl _ _) n⟩
end

theorem awake_any (w : World) : Calls Try.prog 7 #[] w fun e w' => e = .returned (.bool true) ∧ Below w.heap.size w w' := by
  go_enter Try.func7, Try.ntmps7
  go_wp2_with fail
  refine (new_yes 3 w (by decide)).mono ?_
  rintro e w1 ⟨rfl, hw⟩
  have h1 : Buf w.heap.size w.heap.size [] 3 false w1 := by rw [hw]; exact Buf.new 3 w (by decide)
  have b1 : Below w.heap.size w w1 := by rw [hw]; exact (Below.refl _ _).alloc (Nat.le_refl _) _
  clear hw
  go_wp2_with fail
  refine (put_yes ⟨#[97, 98]⟩ h1 (by decide)).mono ?_
  rintro e w2 ⟨rfl, h2, b2⟩
  clear h1
  go_wp2_with fail
  refine (put_no ⟨#[99, 100]⟩ h2 (.inr (by decide))).mono ?_
  rintro e w3 ⟨rfl, h3, b3⟩
  clear h2
  go_wp2_with fail
  refine (put_no ⟨#[99]⟩ h3 (.inl rfl)).mono ?_
  rintro e w4 ⟨rfl, h4, b4⟩
  clear h3
  go_wp2_with (first | (go_at_call 12; refine (text_any h4).mono ?_; rintro e w' ⟨rfl, rfl⟩) | (go_at_call 13; refine (full_any h4).mono ?_; rintro e w' ⟨rfl, rfl⟩))
  go_ret
  exact ⟨rfl, ((b1.trans b2.1).trans b3.1).trans b4.1⟩
end Go.Proofs.Ythdchapieninbab
