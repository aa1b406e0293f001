import Derived.Test.YthdchapieninbabBuf1
namespace Go.Proofs.Ythdchapieninbab
open Go.RowKit

theorem new_no (room : Int) (w : World) (h : room < 0 ∨ 1048576 < room) :
    Calls Try.prog 6 #[.int .i64 room] w fun e w' => e = .returned (.tuple #[.pointer none, .int .i64 7]) ∧ w' = w := by
  rcases h with h | h
  · go_enter Try.func6, Try.ntmps6
    go_wp2
    go_ret2
    exact ⟨rfl, rfl⟩
  · have h' : ¬ room < 0 := by omega
    go_enter Try.func6, Try.ntmps6
    go_wp2
    go_ret2
    exact ⟨rfl, rfl⟩

theorem new_yes (room : Nat) (w : World) (h : room ≤ 1048576) :
    Calls Try.prog 6 #[.int .i64 room] w fun e w' => e = .returned (.tuple #[.pointer (some ⟨w.heap.size, 0, none⟩), .int .i64 0]) ∧ w' = w.alloc (.cells #[.slice none 0 0, .int .i64 room, .bool false] 44) := by
  have h1 : (room : Int) ≤ 1048576 := by omega
  go_enter Try.func6, Try.ntmps6
  go_wp2
  go_ret2
  exact ⟨rfl, rfl⟩

section
variable {B b : Nat} {l : List UInt8} {room : Nat} {full : Bool} {w : World}

theorem len_any (h : Buf B b l room full w) :
    Calls Try.prog 10 #[.pointer (some ⟨b, 0, none⟩)] w fun e w' => e = .returned (.int .i64 l.length) ∧ w' = w := by
  obtain ⟨ao, cap, h⟩ := h
  obtain ⟨c0, _, _, _⟩ := h.cells
  go_enter Try.func10, Try.ntmps10
  go_wp2
  go_ret
  exact ⟨rfl, rfl⟩

theorem full_any (h : Buf B b l room full w) :
    Calls Try.prog 13 #[.pointer (some ⟨b, 0, none⟩)] w fun e w' => e = .returned (.bool full) ∧ w' = w := by
  obtain ⟨ao, cap, h⟩ := h
  obtain ⟨_, _, c2, _⟩ := h.cells
  go_enter Try.func13, Try.ntmps13
  go_wp2
  go_ret
  exact ⟨rfl, rfl⟩

/-- How many more bytes fit. -/
def leftI (l : List UInt8) (room : Nat) (full : Bool) : Int := if full then 0 else room - l.length

theorem left_any (h : Buf B b l room full w) :
    Calls Try.prog 14 #[.pointer (some ⟨b, 0, none⟩)] w fun e w' => e = .returned (.int .i64 (leftI l room full)) ∧ ∃ n, w' = w.drewN n := by
  obtain ⟨ao, cap, h⟩ := h
  obtain ⟨c0, c1, c2, _⟩ := h.cells
  have h1 := h.fits
  have h2 := h.most
  cases full
  · go_enter Try.func14, Try.ntmps14
    go_wp2
    go_quiet (fail)
    go_wp2
    go_ret
    exact ⟨rfl, _, rfl⟩
  · go_enter Try.func14, Try.ntmps14
    go_wp2
    go_ret
    exact ⟨rfl, 0, rfl⟩

end
end Go.Proofs.Ythdchapieninbab
