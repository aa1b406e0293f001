import Derived.Test.YtemdmalcoemhnabGreatPr8
import Derived.Great.BuildSlice
import Derived.Deep.WholeRow
namespace Go.Proofs.YtemdmalcoemhnabGreat.Pr
open Go.RowKit Go.Lib Go.Great
/-- A line of the lower cases: first, last, step, what is added. -/
abbrev S4 := Int × Int × Int × Int
def spanT : List S4 := [
  (65, 90, 1, 32), (192, 214, 1, 32), (216, 222, 1, 32), (256, 302, 2, 1), (304, 304, 1, -199),
  (306, 310, 2, 1), (313, 327, 2, 1), (330, 374, 2, 1), (376, 376, 1, -121), (377, 381, 2, 1),
  (416, 416, 1, 1), (431, 431, 1, 1), (461, 475, 2, 1), (902, 902, 1, 38), (904, 906, 1, 37),
  (908, 908, 1, 64), (910, 911, 1, 63), (913, 929, 1, 32), (931, 939, 1, 32), (1024, 1039, 1, 80),
  (1040, 1071, 1, 32), (7840, 7928, 2, 1), (8486, 8486, 1, -7517), (8490, 8490, 1, -8383), (8491, 8491, 1, -8262),
  (65313, 65338, 1, 32), (66560, 66599, 1, 40)]
def kanaT : List Int := [
  12530, 12449, 12451, 12453, 12455, 12457, 12515, 12517, 12519, 12483, 12540, 12450,
  12452, 12454, 12456, 12458, 12459, 12461, 12463, 12465, 12467, 12469, 12471, 12473,
  12475, 12477, 12479, 12481, 12484, 12486, 12488, 12490, 12491, 12492, 12493, 12494,
  12495, 12498, 12501, 12504, 12507, 12510, 12511, 12512, 12513, 12514, 12516, 12518,
  12520, 12521, 12522, 12523, 12524, 12525, 12527, 12531, 12441, 12442]

def c4 (x : S4) : List Value := [.int .i32 x.1, .int .i32 x.2.1, .int .i32 x.2.2.1, .int .i32 x.2.2.2]
def rc4 (x : S4) : List Value := [.int .i64 x.1, .int .i64 x.2.1, .int .i64 x.2.2.1, .int .i64 x.2.2.2]
def spC : Array Value := (spanT.flatMap c4).toArray
def rspC : Array Value := (spanT.flatMap rc4).toArray
def kaC : Array Value := (kanaT.map fun n => .int .i32 n).toArray
def rkaC : Array Value := (kanaT.map fun n => .int .i64 n).toArray
def z32 (n : Nat) : Array Value := Array.replicate n (.int .i32 0)
def z64 (n : Nat) : Array Value := Array.replicate n (.int .i64 0)

theorem zero_sp (w : World) : (zeroValue 93).run Tryz.prog w = .ok (.agg (z32 108)) w := by kernel_rfl
theorem zero_rsp (w : World) : (zeroValue 100).run Tryz.prog w = .ok (.agg (z64 108)) w := by kernel_rfl
theorem zero_ka (w : World) : (zeroValue 95).run Tryz.prog w = .ok (.agg (z32 58)) w := by kernel_rfl
theorem zero_rka (w : World) : (zeroValue 97).run Tryz.prog w = .ok (.agg (z64 58)) w := by kernel_rfl

theorem setRow_new (w : World) (c c' : Array Value) (t : TypeId) : (w.alloc (.cells c t)).setRow w.heap.size c' = w.alloc (.cells c' t) := World.setRow_alloc_new w c c' t

set_option maxRecDepth 1000000 in
set_option maxHeartbeats 4000000 in
theorem kana_any (w : World) : Calls Tryz.prog 43 #[] w fun e w' => e = .returned (.agg kaC) ∧ Below w.heap.size w w' := by
  have hz := zero_ka
  go_enter Tryz.func43, Tryz.ntmps43
  go_wp2_with (first | (refine wpList_buildTo rfl 95 _ rfl (some 1) rfl kaC (by kernel_rfl) ?_) | (refine wpList_store_row rfl 95 (.tmp 0) (.tmp 1) rfl w.heap.size kaC (by exact rfl) (by exact rfl) 95 (z32 58) (heap_alloc_new w _) (by kernel_rfl) (by kernel_rfl) (by kernel_rfl) ?_; rw [setRow_new]))
  exact bodyPost_ret (v := .agg kaC) (results_cell_row Tryz.results43 _ _ w.heap.size 95 _ (0, 0) _ rfl (heap_alloc_new _ _) Tryz.underlying95 rfl (by kernel_rfl)) rfl ⟨rfl, (Below.refl _ _).alloc (Nat.le_refl _) _⟩

set_option maxRecDepth 1000000 in
set_option maxHeartbeats 4000000 in
theorem rkana_any (w : World) : Calls Tryz.prog 46 #[] w fun e w' => e = .returned (.agg rkaC) ∧ Below w.heap.size w w' := by
  have hz := zero_rka
  go_enter Tryz.func46, Tryz.ntmps46
  go_wp2_with (first | (refine wpList_buildTo rfl 97 _ rfl (some 1) rfl rkaC (by kernel_rfl) ?_) | (refine wpList_store_row rfl 97 (.tmp 0) (.tmp 1) rfl w.heap.size rkaC (by exact rfl) (by exact rfl) 97 (z64 58) (heap_alloc_new w _) (by kernel_rfl) (by kernel_rfl) (by kernel_rfl) ?_; rw [setRow_new]))
  exact bodyPost_ret (v := .agg rkaC) (results_cell_row Tryz.results46 _ _ w.heap.size 97 _ (0, 0) _ rfl (heap_alloc_new _ _) Tryz.underlying97 rfl (by kernel_rfl)) rfl ⟨rfl, (Below.refl _ _).alloc (Nat.le_refl _) _⟩

set_option maxRecDepth 1000000 in
set_option maxHeartbeats 8000000 in
theorem spans_any (w : World) : Calls Tryz.prog 42 #[] w fun e w' => e = .returned (.agg spC) ∧ Below w.heap.size w w' := by
  have hz := zero_sp
  go_enter Tryz.func42, Tryz.ntmps42
  go_wp2_with (first | (refine wpList_buildTo rfl 93 _ rfl (some 28) rfl spC (by kernel_rfl) ?_) | (refine wpList_store_row rfl 93 (.tmp 0) (.tmp 28) rfl w.heap.size spC (by exact rfl) (by exact rfl) 93 (z32 108) (heap_alloc_new w _) (by kernel_rfl) (by kernel_rfl) (by kernel_rfl) ?_; rw [setRow_new]))
  exact bodyPost_ret (v := .agg spC) (results_cell_row Tryz.results42 _ _ w.heap.size 93 _ (0, 0) _ rfl (heap_alloc_new _ _) Tryz.underlying93 rfl (by kernel_rfl)) rfl ⟨rfl, (Below.refl _ _).alloc (Nat.le_refl _) _⟩

set_option maxRecDepth 1000000 in
set_option maxHeartbeats 8000000 in
theorem shifts_any (w : World) : Calls Tryz.prog 47 #[] w fun e w' => e = .returned (.agg rspC) ∧ Below w.heap.size w w' := by
  have hz := zero_rsp
  go_enter Tryz.func47, Tryz.ntmps47
  go_wp2_with (first | (refine wpList_buildTo rfl 100 _ rfl (some 28) rfl rspC (by kernel_rfl) ?_) | (refine wpList_store_row rfl 100 (.tmp 0) (.tmp 28) rfl w.heap.size rspC (by exact rfl) (by exact rfl) 100 (z64 108) (heap_alloc_new w _) (by kernel_rfl) (by kernel_rfl) (by kernel_rfl) ?_; rw [setRow_new]))
  exact bodyPost_ret (v := .agg rspC) (results_cell_row Tryz.results47 _ _ w.heap.size 100 _ (0, 0) _ rfl (heap_alloc_new _ _) Tryz.underlying100 rfl (by kernel_rfl)) rfl ⟨rfl, (Below.refl _ _).alloc (Nat.le_refl _) _⟩
end Go.Proofs.YtemdmalcoemhnabGreat.Pr
