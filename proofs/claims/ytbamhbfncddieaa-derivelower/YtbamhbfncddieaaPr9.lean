import Derived.Test.YtbamhbfncddieaaPr8
import Derived.Great.BuildSlice
import Derived.Deep.WholeRow
namespace Go.Proofs.Ytbamhbfncddieaa.Pr
open Go.RowKit Go.Lib Go.Great
/-- A line of the lower cases: first, last, step, what is added. -/
abbrev S4 := Int × Int × Int × Int
def spanT : List S4 := [
  (65, 90, 1, 32), (192, 214, 1, 32), (216, 222, 1, 32), (256, 302, 2, 1), (304, 304, 1, -199),
  (306, 310, 2, 1), (313, 327, 2, 1), (330, 374, 2, 1), (376, 376, 1, -121), (377, 381, 2, 1),
  (416, 416, 1, 1), (431, 431, 1, 1), (461, 475, 2, 1), (902, 902, 1, 38), (904, 906, 1, 37),
  (908, 908, 1, 64), (910, 911, 1, 63), (913, 929, 1, 32), (931, 939, 1, 32), (1024, 1039, 1, 80),
  (1040, 1071, 1, 32), (7840, 7928, 2, 1), (8486, 8486, 1, -7517), (8490, 8490, 1, -8383), (8491, 8491, 1, -8262),
  (65313, 65338, 1, 32), (66560, 66599, 1, 40)]
def kanaT : List Int := [
  12530, 12449, 12451, 12453, 12455, 12457, 12515, 12517, 12519, 12483, 12540, 12450,
  12452, 12454, 12456, 12458, 12459, 12461, 12463, 12465, 12467, 12469, 12471, 12473,
  12475, 12477, 12479, 12481, 12484, 12486, 12488, 12490, 12491, 12492, 12493, 12494,
  12495, 12498, 12501, 12504, 12507, 12510, 12511, 12512, 12513, 12514, 12516, 12518,
  12520, 12521, 12522, 12523, 12524, 12525, 12527, 12531, 12441, 12442]

def c4 (x : S4) : List Value := [.int .i32 x.1, .int .i32 x.2.1, .int .i32 x.2.2.1, .int .i32 x.2.2.2]
def rc4 (x : S4) : List Value := [.int .i64 x.1, .int .i64 x.2.1, .int .i64 x.2.2.1, .int .i64 x.2.2.2]
def spC : Array Value := (spanT.flatMap c4).toArray
def rspC : Array Value := (spanT.flatMap rc4).toArray
def kaC : Array Value := (kanaT.map fun n => .int .i32 n).toArray
def rkaC : Array Value := (kanaT.map fun n => .int .i64 n).toArray
def z32 (n : Nat) : Array Value := Array.replicate n (.int .i32 0)
def z64 (n : Nat) : Array Value := Array.replicate n (.int .i64 0)

theorem zero_sp (w : World) : (zeroValue 80).run Try.prog w = .ok (.agg (z32 108)) w := by kernel_rfl
theorem zero_ka (w : World) : (zeroValue 84).run Try.prog w = .ok (.agg (z32 58)) w := by kernel_rfl
theorem setRow_new (w : World) (c c' : Array Value) (t : TypeId) : (w.alloc (.cells c t)).setRow w.heap.size c' = w.alloc (.cells c' t) := World.setRow_alloc_new w c c' t

set_option maxRecDepth 1000000 in
set_option maxHeartbeats 4000000 in
theorem kana_any (w : World) : Calls Try.prog 40 #[] w fun e w' => e = .returned (.agg kaC) ∧ Below w.heap.size w w' := by
  have hz := zero_ka
  go_enter Try.func40, Try.ntmps40
  go_wp2_with (first | (refine wpList_buildTo rfl 84 _ rfl (some 1) rfl kaC (by kernel_rfl) ?_) | (refine wpList_store_row rfl 84 (.tmp 0) (.tmp 1) rfl w.heap.size kaC (by exact rfl) (by exact rfl) 84 (z32 58) (heap_alloc_new w _) (by kernel_rfl) (by kernel_rfl) (by kernel_rfl) ?_; rw [setRow_new]))
  exact bodyPost_ret (v := .agg kaC) (results_cell_row Try.results40 _ _ w.heap.size 84 _ (0, 0) _ rfl (heap_alloc_new _ _) Try.underlying84 rfl (by kernel_rfl)) rfl ⟨rfl, (Below.refl _ _).alloc (Nat.le_refl _) _⟩

set_option maxRecDepth 1000000 in
set_option maxHeartbeats 8000000 in
theorem spans_any (w : World) : Calls Try.prog 37 #[] w fun e w' => e = .returned (.agg spC) ∧ Below w.heap.size w w' := by
  have hz := zero_sp
  go_enter Try.func37, Try.ntmps37
  go_wp2_with (first | (refine wpList_buildTo rfl 80 _ rfl (some 28) rfl spC (by kernel_rfl) ?_) | (refine wpList_store_row rfl 80 (.tmp 0) (.tmp 28) rfl w.heap.size spC (by exact rfl) (by exact rfl) 80 (z32 108) (heap_alloc_new w _) (by kernel_rfl) (by kernel_rfl) (by kernel_rfl) ?_; rw [setRow_new]))
  exact bodyPost_ret (v := .agg spC) (results_cell_row Try.results37 _ _ w.heap.size 80 _ (0, 0) _ rfl (heap_alloc_new _ _) Try.underlying80 rfl (by kernel_rfl)) rfl ⟨rfl, (Below.refl _ _).alloc (Nat.le_refl _) _⟩

end Go.Proofs.Ytbamhbfncddieaa.Pr
