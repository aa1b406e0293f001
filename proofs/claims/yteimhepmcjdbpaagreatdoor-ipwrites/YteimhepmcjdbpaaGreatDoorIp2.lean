import Derived.Test.YteimhepmcjdbpaaGreatDoorIp1
import Derived.Shelf.Strings.Cut
namespace Go.Proofs.YteimhepmcjdbpaaGreatDoor
open Go.Shelf Go.RowKit
namespace Ip

/-- Where the library's own numbers lie in this program: what Cut takes. -/
def cuRen : Ren := ⟨fun | 145 => 19 | 217 => 75 | 219 => 57 | 220 => 40 | 224 => 77 | 225 => 76 | 266 => 100 | 267 => 78 | 314 => 101 | n => n,
  fun | 3 => 3 | 4 => 4 | 5 => 5 | 9 => 9 | 46 => 95 | 51 => 126 | 59 => 43 | 146 => 127 | n => n, fun | 1 => 0 | n => n⟩
set_option maxRecDepth 100000 in
theorem cuLays : Lays.n145 Tryz.prog cuRen := {
  mixed := by kernel_rfl
  f145 := Tryz.func19.trans (congrArg some (by kernel_rfl))
  f217 := Tryz.func75.trans (congrArg some (by kernel_rfl))
  f219 := Tryz.func57.trans (congrArg some (by kernel_rfl))
  f220 := Tryz.func40.trans (congrArg some (by kernel_rfl))
  f224 := Tryz.func77.trans (congrArg some (by kernel_rfl))
  f225 := Tryz.func76.trans (congrArg some (by kernel_rfl))
  f266 := Tryz.func100.trans (congrArg some (by kernel_rfl))
  f267 := Tryz.func78.trans (congrArg some (by kernel_rfl))
  f314 := Tryz.func101.trans (congrArg some (by kernel_rfl))
  t3 := Tryz.underlying3
  a3 := Tryz.isAgg3
  z3 := Tryz.sizeOf3
  v3 := Tryz.zeroValue3
  t4 := Tryz.underlying4
  a4 := Tryz.isAgg4
  z4 := Tryz.sizeOf4
  v4 := Tryz.zeroValue4
  t5 := Tryz.underlying5
  a5 := Tryz.isAgg5
  z5 := Tryz.sizeOf5
  v5 := Tryz.zeroValue5
  t9 := Tryz.underlying9
  a9 := Tryz.isAgg9
  z9 := Tryz.sizeOf9
  v9 := Tryz.zeroValue9
  t46 := Tryz.underlying95
  a46 := Tryz.isAgg95
  z46 := Tryz.sizeOf95
  v46 := Tryz.zeroValue95
  t51 := Tryz.underlying126
  a51 := Tryz.isAgg126
  z51 := Tryz.sizeOf126
  v51 := Tryz.zeroValue126
  t59 := Tryz.underlying43
  a59 := Tryz.isAgg43
  z59 := Tryz.sizeOf43
  v59 := Tryz.zeroValue43
  t146 := Tryz.underlying127
  a146 := Tryz.isAgg127
  z146 := Tryz.sizeOf127
  v146 := Tryz.zeroValue127
  g1 := by kernel_rfl }

/-- The library's own variables, as the walks meet them. -/
structure Gl (w : World) : Prop where
  m : ∃ m : Int, w.cell? ⟨0, 0, none⟩ = some (.int .i64 m)
  lt : 8 ≤ w.heap.size

theorem Gl.step {w w' : World} (h : Gl w) (hb : Below w.heap.size w w') : Gl w' := by
  obtain ⟨⟨m, hm⟩, hl⟩ := h
  exact ⟨⟨m, (hb.cell (p := ⟨0, 0, none⟩) (Nat.lt_of_lt_of_le (by decide) hl)).trans hm⟩, Nat.le_trans hl hb.size⟩

theorem bel_drewN (w : World) (n : Nat) : Below w.heap.size w (w.drewN n) := ⟨rfl, rfl, rfl, Nat.le_refl _, fun _ _ => rfl⟩

theorem cut_any (s sep : ByteArray) (w : World) (hs : s.size ≤ 1000) (hp : sep.data.toList ≠ []) (hg : Gl w) :
    Calls Tryz.prog 19 #[.string s, .string sep] w fun e w' => e = .returned (.tuple #[.string ⟨(cuG sep.data.toList s.data.toList).1.toArray⟩, .string ⟨(cuG sep.data.toList s.data.toList).2.1.toArray⟩, .bool (cuG sep.data.toList s.data.toList).2.2]) ∧ Below w.heap.size w w' := by
  obtain ⟨⟨m, hm⟩, _⟩ := hg
  refine (Any.strings_Cut cuLays s sep m w (by omega) hm).mono ?_
  rw [cut_cuG _ hp]
  rintro e w' ⟨rfl, n, rfl⟩
  exact ⟨rfl, bel_drewN w n⟩
end Ip
end Go.Proofs.YteimhepmcjdbpaaGreatDoor
