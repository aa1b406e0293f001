import Derived.Test.YtbamhbfncddieaaProg
import Derived.WalkKit
import Derived.ProofKit
import Derived.WalkSpells
import Derived.WalkLawsBesides
import Derived.Laws.IdiomStrings
namespace Go.Proofs.Ytbamhbfncddieaa
open Go.RowKit

theorem ret_bool {a b : Bool} (h : a = b) : Ending.returned (.bool a) = .returned (.bool b) := by rw [h]
theorem ret_int {k : IntKind} {a b : Int} (h : a = b) : Ending.returned (.int k a) = .returned (.int k b) := by rw [h]
theorem ret_string {a b : ByteArray} (h : a = b) : Ending.returned (.string a) = .returned (.string b) := by rw [h]
theorem take_snoc (s : ByteArray) (k : Nat) (h : k < s.size) : s.data.toList.take (k + 1) = s.data.toList.take k ++ [s[k]] := by
  rw [List.take_succ_eq_append_getElem (by simpa using h)]; rfl
theorem dt {p : Prop} [Decidable p] (h : p) : true = decide p := (decide_eq_true h).symm
theorem df {p : Prop} [Decidable p] (h : ¬ p) : false = decide p := (decide_eq_false h).symm
theorem byte_le (x : UInt8) : (x.toNat : Int) ≤ 255 := by have := x.toNat_lt; omega
theorem byte_nn (x : UInt8) : (0 : Int) ≤ x.toNat := by omega
theorem ret_two {a b c d : Value} (h : a = b) (h' : c = d) : Ending.returned (.tuple #[a, c]) = .returned (.tuple #[b, d]) := by rw [h, h']
theorem int_eq {k : IntKind} {a b : Int} (h : a = b) : Value.int k a = Value.int k b := by rw [h]
theorem Below.conv (w : World) (o : Obj) : Below w.heap.size w (w.alloc o).drew := ((Below.refl _ _).alloc (Nat.le_refl _) o).drew
/-- Are two texts one? -/
def eqS (a b : ByteArray) : Bool := a.toList == b.toList
/-- Of what lay below B in W0 nothing has turned. -/
def Ok (B : Nat) (W0 w : World) : Prop := Below B W0 w ∧ B ≤ w.heap.size
theorem Ok.start (w : World) : Ok w.heap.size w w := ⟨Below.refl _ _, Nat.le_refl _⟩
theorem Ok.step {B : Nat} {W0 w w' : World} (h : Ok B W0 w) (h' : Below w.heap.size w w') : Ok B W0 w' := ⟨h.1.trans (h'.mono h.2), Nat.le_trans h.2 h'.size⟩
theorem Ok.alloc {B : Nat} {W0 w : World} {o : Obj} (h : Ok B W0 w) : Ok B W0 (w.alloc o) := h.step ((Below.refl _ _).alloc (Nat.le_refl _) _)
theorem ext_list (s : ByteArray) (a b : Nat) : (s.extract a b).data.toList = (s.data.toList.drop a).take (b - a) := by
  rw [ByteArray.data_extract, Array.toList_extract, List.extract]
theorem ext_end (s : ByteArray) (a : Nat) : (s.extract a s.size).data.toList = s.data.toList.drop a := by
  rw [ext_list, List.take_of_length_le (by simp)]
theorem len_size (s : ByteArray) : s.data.toList.length = s.size := by simp
theorem ext_size (s : ByteArray) (a : Nat) : (s.extract a s.size).size = s.size - a := by
  rw [← len_size, ext_end, List.length_drop, len_size]
end Go.Proofs.Ytbamhbfncddieaa
