import Derived.Test.YteimhepmcjdbpaaGreatDoorOct3
import Derived.Lib.BufSteps
import Derived.Lib.BufferRead
namespace Go.Proofs.YteimhepmcjdbpaaGreatDoor
open Go.RowKit

def u8s (l : List UInt8) : List Value := l.map fun x => .int .u8 (x.toNat : Int)

theorem u8s_snoc (l : List UInt8) (x : UInt8) : u8s (l ++ [x]) = u8s l ++ [.int .u8 (x.toNat : Int)] := by simp [u8s]

theorem Tryz.info_u8 : (Tryz.prog.info? 5).map (fun i => (i.zero, i.size, i.bytes)) = some (some (.int .u8 0), 1, 1) := by kernel_rfl

/-- What is owned, as a string. -/
theorem conv_own {w : World} {B : Nat} {e : TypeId} {v : Value} {l : List UInt8} (h : w.ownsRowF B e 1 v l.length (u8s l)) : (convert 64 9 v).run Tryz.prog w = .ok (.string ⟨l.toArray⟩) w := by
  rcases h.2 with ⟨rfl, hn⟩ | ⟨g, cap, cur, fz, rfl, _, _, _⟩
  · have : l = [] := List.eq_nil_of_length_eq_zero hn
    subst this
    exact Lib.run_convert_nil_bytes w 64 9 5 0 Tryz.underlying64 Tryz.underlying5 Tryz.underlying9
  · refine run_convert_bytes_back w 64 9 5 ⟨g, 0, none⟩ cap l Tryz.underlying64 Tryz.underlying5 Tryz.underlying9 fun j hj => ?_
    exact h.cells rfl j _ (by simp [u8s, hj])

theorem up_all : ((List.range 256).all fun n => inB (n : Int) [65, 66, 67, 68, 69, 70, 71, 72, 73, 74, 75, 76, 77, 78, 79, 80, 81, 82, 83, 84, 85, 86, 87, 88, 89, 90] == upB (n : Int)) = true := by decide +kernel
theorem low_all : ((List.range 256).all fun n => inB (n : Int) [97, 98, 99, 100, 101, 102, 103, 104, 105, 106, 107, 108, 109, 110, 111, 112, 113, 114, 115, 116, 117, 118, 119, 120, 121, 122] == lowB (n : Int)) = true := by decide +kernel
theorem up_in (c : UInt8) : inB (c.toNat : Int) [65, 66, 67, 68, 69, 70, 71, 72, 73, 74, 75, 76, 77, 78, 79, 80, 81, 82, 83, 84, 85, 86, 87, 88, 89, 90] = upB (c.toNat : Int) := by
  have := List.all_eq_true.1 up_all c.toNat (by have := c.toNat_lt; simp; omega)
  simpa using this
theorem low_in (c : UInt8) : inB (c.toNat : Int) [97, 98, 99, 100, 101, 102, 103, 104, 105, 106, 107, 108, 109, 110, 111, 112, 113, 114, 115, 116, 117, 118, 119, 120, 121, 122] = lowB (c.toNat : Int) := by
  have := List.all_eq_true.1 low_all c.toNat (by have := c.toNat_lt; simp; omega)
  simpa using this

theorem own_snoc {B : Nat} {e : TypeId} {v : Value} {k : Nat} {s : ByteArray} {f : UInt8 → UInt8} {x : Int} {W0 w : World} (hk : k < s.size) (hx : x = ((f s[k]).toNat : Int))
    (h : Lib.OwnBuf B e v (k + 1) (u8s ((s.data.toList.take k).map f) ++ [.int .u8 x]) W0 w) : Lib.OwnBuf B e v (k + 1) (u8s ((s.data.toList.take (k + 1)).map f)) W0 w := by
  rw [take_snoc s k hk, List.map_append, List.map_cons, List.map_nil, u8s_snoc, ← hx]; exact h

end Go.Proofs.YteimhepmcjdbpaaGreatDoor
