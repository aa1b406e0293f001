import Derived.Test.YteimhepmcjdbpaaDoorIp1
import Derived.Shelf.Strings.Cut
namespace Go.Proofs.YteimhepmcjdbpaaDoor
open Go.Shelf Go.RowKit
namespace Ip

/-- Where the library's own numbers lie in this program: what Cut takes. -/
def cuRen : Ren := ⟨fun | 145 => 8 | 217 => 39 | 219 => 27 | 220 => 15 | 224 => 41 | 225 => 40 | 266 => 58 | 267 => 42 | 314 => 59 | n => n,
  fun | 3 => 3 | 4 => 4 | 5 => 5 | 9 => 9 | 46 => 67 | 51 => 91 | 59 => 30 | 146 => 92 | n => n, fun | 1 => 0 | n => n⟩
set_option maxRecDepth 100000 in
theorem cuLays : Lays.n145 Tryd.prog cuRen := {
  mixed := by kernel_rfl
  f145 := Tryd.func8.trans (congrArg some (by kernel_rfl))
  f217 := Tryd.func39.trans (congrArg some (by kernel_rfl))
  f219 := Tryd.func27.trans (congrArg some (by kernel_rfl))
  f220 := Tryd.func15.trans (congrArg some (by kernel_rfl))
  f224 := Tryd.func41.trans (congrArg some (by kernel_rfl))
  f225 := Tryd.func40.trans (congrArg some (by kernel_rfl))
  f266 := Tryd.func58.trans (congrArg some (by kernel_rfl))
  f267 := Tryd.func42.trans (congrArg some (by kernel_rfl))
  f314 := Tryd.func59.trans (congrArg some (by kernel_rfl))
  t3 := Tryd.underlying3
  a3 := Tryd.isAgg3
  z3 := Tryd.sizeOf3
  v3 := Tryd.zeroValue3
  t4 := Tryd.underlying4
  a4 := Tryd.isAgg4
  z4 := Tryd.sizeOf4
  v4 := Tryd.zeroValue4
  t5 := Tryd.underlying5
  a5 := Tryd.isAgg5
  z5 := Tryd.sizeOf5
  v5 := Tryd.zeroValue5
  t9 := Tryd.underlying9
  a9 := Tryd.isAgg9
  z9 := Tryd.sizeOf9
  v9 := Tryd.zeroValue9
  t46 := Tryd.underlying67
  a46 := Tryd.isAgg67
  z46 := Tryd.sizeOf67
  v46 := Tryd.zeroValue67
  t51 := Tryd.underlying91
  a51 := Tryd.isAgg91
  z51 := Tryd.sizeOf91
  v51 := Tryd.zeroValue91
  t59 := Tryd.underlying30
  a59 := Tryd.isAgg30
  z59 := Tryd.sizeOf30
  v59 := Tryd.zeroValue30
  t146 := Tryd.underlying92
  a146 := Tryd.isAgg92
  z146 := Tryd.sizeOf92
  v146 := Tryd.zeroValue92
  g1 := by kernel_rfl }

/-- The library's own variables, as the walks meet them. -/
structure Gl (w : World) : Prop where
  m : ∃ m : Int, w.cell? ⟨0, 0, none⟩ = some (.int .i64 m)
  lt : 8 ≤ w.heap.size

theorem Gl.step {w w' : World} (h : Gl w) (hb : Below w.heap.size w w') : Gl w' := by
  obtain ⟨⟨m, hm⟩, hl⟩ := h
  exact ⟨⟨m, (hb.cell (p := ⟨0, 0, none⟩) (Nat.lt_of_lt_of_le (by decide) hl)).trans hm⟩, Nat.le_trans hl hb.size⟩

theorem bel_drewN (w : World) (n : Nat) : Below w.heap.size w (w.drewN n) := ⟨rfl, rfl, rfl, Nat.le_refl _, fun _ _ => rfl⟩

theorem cut_any (s sep : ByteArray) (w : World) (hs : s.size ≤ 1000) (hp : sep.data.toList ≠ []) (hg : Gl w) :
    Calls Tryd.prog 8 #[.string s, .string sep] w fun e w' => e = .returned (.tuple #[.string ⟨(cuG sep.data.toList s.data.toList).1.toArray⟩, .string ⟨(cuG sep.data.toList s.data.toList).2.1.toArray⟩, .bool (cuG sep.data.toList s.data.toList).2.2]) ∧ Below w.heap.size w w' := by
  obtain ⟨⟨m, hm⟩, _⟩ := hg
  refine (Any.strings_Cut cuLays s sep m w (by omega) hm).mono ?_
  rw [cut_cuG _ hp]
  rintro e w' ⟨rfl, n, rfl⟩
  exact ⟨rfl, bel_drewN w n⟩
end Ip
end Go.Proofs.YteimhepmcjdbpaaDoor
