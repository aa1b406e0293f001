import Derived.Test.YtoknfhjclpdihaaPu4
import Derived.Deep.OwnRows
namespace Go.Proofs.Ytoknfhjclpdihaa
namespace Pu
open Go.RowKit Od

theorem ps_zero (n q : Nat) : ps (List.replicate n 0) q = 0 := by
  unfold ps
  rw [List.take_replicate]
  generalize min q n = m
  induction m with
  | zero => rfl
  | succ m ih => rw [List.replicate_succ, List.sum_cons, ih]; rfl
theorem tal_zero (n : Nat) (h : n ≤ 127) : Tal (List.replicate (n + 1) 0) (List.replicate n 0) := by
  refine ⟨by simp, by simp; exact h, fun x hx => by simp at hx; omega, fun q _ _ => ?_⟩
  rw [ps_zero, ps_zero, List.getD_eq_getElem?_getD, List.getElem?_replicate]
  split <;> rfl
theorem made_zero (n : Nat) : madeCells #[.int .i64 0] n = (i32s (List.replicate n 0) ++ []).toArray := by
  apply Array.ext
  · simp [madeCells, i32s]
  · intro i h1 h2
    simp [madeCells, i32s, Nat.mod_one]
set_option maxHeartbeats 1000000 in
theorem newt_any (n : Nat) (h : n ≤ 127) (w : World) : Calls Try.prog 23 #[.int .i64 n] w fun e w' => e = .returned (.slice (some ⟨w.heap.size, 0, none⟩) (n + 1) (n + 1)) ∧ Blk w' w.heap.size (List.replicate (n + 1) 0) [] ∧ Below w.heap.size w w' := by
  have hmk : ∀ w, (Instr.makeSlice 48 (.int .i64 ((n : Int) + 1)) (.int .i64 ((n : Int) + 1))).run Try.prog w = .ok (.slice (some ⟨w.heap.size, 0, none⟩) (n + 1) (n + 1)) (w.alloc (.cells (madeCells #[.int .i64 0] (n + 1)) 3)) := fun w => run_make_row' 48 3 (.int .i64 0) 8 Try.underlying48 Od.Try.info_i64 rfl .i64 .i64 (n + 1) (by omega) (by omega) w
  go_enter Try.func23, Try.ntmps23
  go_wp2_with fail
  go_ret
  refine ⟨rfl, ?_, (Below.refl _ _).alloc (Nat.le_refl _) _⟩
  have := heap_new w (.cells (madeCells #[.int .i64 0] (n + 1)) 3)
  rw [made_zero] at this
  unfold Blk
  rw [made_zero]
  exact this
end Pu
end Go.Proofs.Ytoknfhjclpdihaa
