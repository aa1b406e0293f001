import Derived.Test.YteimhepmcjdbpaaLex4
namespace Go.Proofs.Yteimhepmcjdbpaa
open Go.RowKit
namespace Le

theorem ex1 : spL 3 false [97, 37, 50, 70, 98, 47, 99] = 5 := by decide +kernel
theorem ex2 : spL 3 false [37, 122, 122] = 0 := by decide +kernel
theorem ex3 : maB 5 true 252 = true := by decide +kernel
theorem ex4 : maB 5 false 252 = false := by decide +kernel
theorem ex5 : scL [97, 43, 98] = true := by decide +kernel

set_option maxHeartbeats 1000000 in
theorem awake_any (w : World) : Calls Try.prog 14 #[] w fun e w' => e = .returned (.bool true) ∧ Below w.heap.size w w' := by
  have hok := Ok.start w
  have h1 := fun w => spa_any 3 false ⟨#[97, 37, 50, 70, 98, 47, 99]⟩ w (by decide)
  rw [ex1] at h1
  have h2 := fun w => spa_any 3 false ⟨#[37, 122, 122]⟩ w (by decide)
  rw [ex2] at h2
  have h3 := fun w => ma_any 5 true 252 w
  rw [ex3] at h3
  have h4 := fun w => ma_any 5 false 252 w
  rw [ex4] at h4
  have h5 := fun w => sch_any ⟨#[97, 43, 98]⟩ w (by decide)
  rw [ex5] at h5
  have H1 := hid h1
  have H2 := hid h2
  have H3 := hid h3
  have H4 := hid h4
  have H5 := hid h5
  clear h1 h2 h3 h4 h5
  go_enter Try.func14, Try.ntmps14
  go_wp2_with fail
  refine (H1.out _).mono ?_
  rintro e w' ⟨rfl, hb'⟩
  replace hok := hok.step hb'
  clear hb'
  go_wp2_with fail
  refine (H2.out _).mono ?_
  rintro e w' ⟨rfl, hb'⟩
  replace hok := hok.step hb'
  clear hb'
  go_wp2_with fail
  refine (H3.out _).mono ?_
  rintro e w' ⟨rfl, rfl⟩
  go_wp2_with fail
  refine (H4.out _).mono ?_
  rintro e w' ⟨rfl, rfl⟩
  go_wp2_with fail
  refine (H5.out _).mono ?_
  rintro e w' ⟨rfl, rfl⟩
  go_wp2_with fail
  go_ret
  exact ⟨rfl, hok.1⟩
end Le
end Go.Proofs.Yteimhepmcjdbpaa
