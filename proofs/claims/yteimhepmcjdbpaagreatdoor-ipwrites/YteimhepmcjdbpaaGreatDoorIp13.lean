import Derived.Test.YteimhepmcjdbpaaGreatDoorIp12
namespace Go.Proofs.YteimhepmcjdbpaaGreatDoor
open Go.RowKit
namespace Ip

theorem ex1 : v6L [58, 58, 49] = ([0, 0, 0, 0, 0, 0, 0, 1], true) := by decide +kernel
theorem ex2 : tx6 [1, 0, 0, 2, 0, 0, 0, 3] = [49, 58, 48, 58, 48, 58, 50, 58, 58, 51] := by decide +kernel
theorem ex3 : hoI false [50, 53, 54, 46, 48, 46, 48, 46, 49] = 2 := by decide +kernel
theorem guard8 : Tryz.prog.eqGuardType Tryz.prog.depth 27 = false := by kernel_rfl
theorem run_eq8 (w : World) : (Op.equalIn 10000 27 (.agg #[.int .u16 0, .int .u16 0, .int .u16 0, .int .u16 0, .int .u16 0, .int .u16 0, .int .u16 0, .int .u16 1]) (.agg #[.int .u16 0, .int .u16 0, .int .u16 0, .int .u16 0, .int .u16 0, .int .u16 0, .int .u16 0, .int .u16 1])).run Tryz.prog w = .ok true w := by kernel_rfl

set_option maxRecDepth 100000 in
set_option maxHeartbeats 4000000 in
theorem awake_any (w : World) (hg : Gl w) (hd : Db w) : Calls Tryz.prog 6 #[] w fun e w' => e = .returned (.bool true) ∧ Below w.heap.size w w' := by
  have hok := Ok.start w
  have h1 := v6_any ⟨#[58, 58, 49]⟩ w (by decide) hg
  rw [ex1] at h1
  have H1 : Hid (Calls Tryz.prog 8 #[.string ⟨#[58, 58, 49]⟩] w fun e w' => e = .returned (.tuple #[.agg #[.int .u16 0, .int .u16 0, .int .u16 0, .int .u16 0, .int .u16 0, .int .u16 0, .int .u16 0, .int .u16 1], .bool true]) ∧ Below w.heap.size w w') := h1
  have h2 := fun (W : World) (h : Below w.heap.size w W) => text6_any 1 0 0 2 0 0 0 3 W (by intro x hx; simp at hx; omega) (hd.step h)
  rw [ex2] at h2
  have H2 := hid h2
  have h3 := fun (W : World) (h : Below w.heap.size w W) => host_any false ⟨#[50, 53, 54, 46, 48, 46, 48, 46, 49]⟩ W (by decide) (hg.step h)
  rw [ex3] at h3
  have H3 := hid h3
  have g8 := guard8
  have r8 := run_eq8
  clear h1 h2 h3 hg hd
  go_enter Tryz.func6, Tryz.ntmps6
  go_wp2_with fail
  refine H1.out.mono ?_
  rintro e w2 ⟨rfl, hb⟩
  have hok2 := (hok.step hb).alloc (o := .cells #[.int .u16 0, .int .u16 0, .int .u16 0, .int .u16 0, .int .u16 0, .int .u16 0, .int .u16 0, .int .u16 1] 27)
  have HL := hid (Li.new w2 #[.int .u16 0, .int .u16 0, .int .u16 0, .int .u16 0, .int .u16 0, .int .u16 0, .int .u16 0, .int .u16 1] 27)
  have HO := hid hok2
  clear hb hok hok2
  go_upto_region 2 with fail
  obtain ⟨e0, _⟩ := HL.out.at 0 _ rfl
  obtain ⟨e1, _⟩ := HL.out.at 1 _ rfl
  obtain ⟨e2, _⟩ := HL.out.at 2 _ rfl
  obtain ⟨e3, _⟩ := HL.out.at 3 _ rfl
  obtain ⟨e4, _⟩ := HL.out.at 4 _ rfl
  obtain ⟨e5, _⟩ := HL.out.at 5 _ rfl
  obtain ⟨e6, _⟩ := HL.out.at 6 _ rfl
  obtain ⟨e7, _⟩ := HL.out.at 7 _ rfl
  generalize w2.alloc (.cells #[.int .u16 0, .int .u16 0, .int .u16 0, .int .u16 0, .int .u16 0, .int .u16 0, .int .u16 0, .int .u16 1] 27) = w3 at *
  clear HL
  go_wp2_with fail
  refine (H2.out _ HO.out.1).mono ?_
  rintro e w4 ⟨rfl, hb⟩
  have HO2 := hid (HO.out.step hb)
  clear hb
  go_wp2_with fail
  refine (H3.out _ HO2.out.1).mono ?_
  rintro e w5 ⟨rfl, hb⟩
  have HO3 := hid (HO2.out.step hb)
  clear hb
  go_wp2_with fail
  go_ret
  exact ⟨rfl, HO3.out.1⟩
end Ip
end Go.Proofs.YteimhepmcjdbpaaGreatDoor
