/-
  For every slice l of runes the law MappingTwice returns true, and l reads behind the call as it read before. No condition.
-/
import Derived.Test.YtemdmalcoemhnabRows
import Derived.Test.YtemdmalcoemhnabAp1x4
import Derived.WalkKit
import Derived.ProofKit
import Derived.OpenShut
import Derived.ShutString
import Derived.ChangeOld
import Derived.Below
namespace Go.Proofs.Ytemdmalcoemhnab.mappingTwice
open Go.ChangeShapes Go.WideShapes Go.ChangeAt Go.RowKit
open Go.ChangeMaps (open_string shut_string)
set_option linter.unusedVariables false

theorem own : ownKnob Try.prog.godebug = none := by kernel_rfl
theorem laidOut : laidOutB Try.prog = true := by kernel_rfl

/-- WHAT THE WALK IS TOLD OF A SLICE OF INTEGERS THAT CAME IN: it is nil; or it leads to a row of 'cap' cells, the numbers 'zs' (the first 'len' are its elements, the rest its spare room), each fitting its kind. -/
def IsRow (k : IntKind) (w : World) (a : Option Addr) (len cap : Nat) (zs : List Int) : Prop :=
  (a = none ∧ len = 0 ∧ cap = 0 ∧ zs = []) ∨
  ∃ x, a = some x ∧ len ≤ cap ∧ cap ≤ maxLen ∧ zs.length = cap ∧ (∀ i, i < zs.length → w.cell? (x.add i) = some (.int k (zs.getD i 0))) ∧ ∀ n ∈ zs, (Lit.int k n).wf = true

open Od Pr Nf Ma in
set_option maxHeartbeats 8000000 in
set_option maxRecDepth 100000 in
theorem walk (a0 : Option Addr) (len0 cap0 : Nat) (z0 : List Int) (w : World) (w0 : IsRow .i32 w a0 len0 cap0 z0) :
    Calls Try.prog 3 #[.slice a0 len0 cap0] w fun e w' => e = .returned (.bool true) ∧ Below w.heap.size w w' := by
  obtain ⟨hlen, hS, hZ⟩ := row_sl w0
  have HZ : Hid (∀ y ∈ z0.take len0, Pr.I32 y) := fun y hy => ⟨(hZ y hy).1, (hZ y hy).2⟩
  have HSl : Hid (Sl .i32 w (.slice a0 len0 cap0) (z0.take len0)) := ⟨a0, cap0, by rw [hlen], hS⟩
  have hLen : Hid ((z0.take len0).length = len0) := hlen
  generalize z0.take len0 = zs at *
  clear w0 hS hZ hlen
  have HO := Ma.hr (Ok.start w)
  go_enter Try.func3, Try.ntmps3
  go_wp2_with fail
  refine (newbook_any _).mono ?_
  rintro e W1 ⟨b, rfl, hb, hB⟩
  have HB := Ma.hr hB
  replace HO := Ma.hr (HO.out.step hb)
  clear hb hB
  go_wp2_with fail
  refine (Pr.new_any _).mono ?_
  rintro e W2 ⟨p, d, u, s, rfl, hP, hb⟩
  have HP := Ma.hr hP
  replace HB := Ma.hr (HB.out.step hb)
  replace HO := Ma.hr (HO.out.step hb)
  clear hb hP
  go_wp2_with fail
  refine (mnew_any HB.out HP.out).mono ?_
  rintro e W3 ⟨m, f, rfl, hM, hb⟩
  have HM := Ma.hr hM
  replace HO := Ma.hr (HO.out.step hb)
  clear hb hM HB HP
  by_cases hl : 40 < len0
  · go_wp2_with fail
    refine (awake15_any HM.out).mono ?_
    rintro e w' ⟨rfl, hb⟩
    replace HO := Ma.hr (HO.out.step hb)
    clear hb
    go_wp2_with fail
    go_ret
    exact ⟨rfl, HO.out.1⟩
  · have hn : Hid (zs.length ≤ 40) := by show _ ≤ _; have := hLen.out; omega
    have HMb := Ma.hr (map_bd HZ.out)
    have HMM := Ma.hr (map_map zs HZ.out)
    have hn2 : Hid ((mapP zs).length ≤ 10000) := by show _ ≤ _; have h1 := HMb.out.2; have h2 := hn.out; omega
    have HBd : Hid (∀ z ∈ mapP zs, -2147483648 ≤ z ∧ z ≤ 2147483647) := fun z hz => ⟨(HMb.out.1 z hz).1, (HMb.out.1 z hz).2⟩
    go_wp2_with fail
    refine (Pr.new_any _).mono ?_
    rintro e W4 ⟨p2, d2, u2', s2, rfl, _, hb⟩
    replace HM := Ma.hr (HM.out.step hb)
    replace HO := Ma.hr (HO.out.step hb)
    clear hb
    go_wp2_with fail
    refine (mnew_nob _ _).mono ?_
    rintro e W5 ⟨rfl, rfl⟩
    go_wp2_with fail
    refine (newbook_any _).mono ?_
    rintro e W6 ⟨b2, rfl, hb, _⟩
    replace HM := Ma.hr (HM.out.step hb)
    replace HO := Ma.hr (HO.out.step hb)
    clear hb
    go_wp2_with fail
    refine (mnew_nop _ _).mono ?_
    rintro e W7 ⟨rfl, rfl⟩
    go_wp2_with fail
    refine (map_any HM.out (HSl.out.step HO.out.1) HZ.out (by have := hn.out; omega)).mono ?_
    rintro e W8 ⟨v8, rfl, h1, hb⟩
    have S8 := Ma.hr h1
    replace HM := Ma.hr (HM.out.step hb)
    replace HO := Ma.hr (HO.out.step hb)
    clear hb h1
    go_wp2_with fail
    refine (map_any HM.out S8.out HMb.out.1 hn2.out).mono ?_
    rintro e W9 ⟨v9, rfl, h1, hb⟩
    rw [HMM.out] at h1
    have S9 := Ma.hr h1
    replace S8 := Ma.hr (S8.out.step hb)
    replace HM := Ma.hr (HM.out.step hb)
    replace HO := Ma.hr (HO.out.step hb)
    clear hb h1
    go_wp2_with fail
    refine (ints15_any _ _ _ S9.out (by have := hn2.out; omega) HBd.out).mono ?_
    rintro e W10 ⟨v10, rfl, h1, hb⟩
    have S10 := Ma.hr h1.sl
    replace S8 := Ma.hr (S8.out.step hb)
    replace HM := Ma.hr (HM.out.step hb)
    replace HO := Ma.hr (HO.out.step hb)
    clear hb h1 S9
    go_wp2_with fail
    refine (ints15_any _ _ _ S8.out (by have := hn2.out; omega) HBd.out).mono ?_
    rintro e W11 ⟨v11, rfl, h1, hb⟩
    have S11 := Ma.hr h1.sl
    replace S10 := Ma.hr (S10.out.step hb)
    replace HM := Ma.hr (HM.out.step hb)
    replace HO := Ma.hr (HO.out.step hb)
    clear hb h1 S8
    go_wp2_with fail
    refine (same_any _ _ _ _ _ S10.out S11.out (by have := hn2.out; omega)).mono ?_
    rintro e W12 ⟨rfl, hb⟩
    replace HM := Ma.hr (HM.out.step hb)
    replace HO := Ma.hr (HO.out.step hb)
    clear hb
    rw [decide_eq_true rfl]
    go_wp2_with fail
    refine (awake15_any HM.out).mono ?_
    rintro e w' ⟨rfl, hb⟩
    replace HO := Ma.hr (HO.out.step hb)
    clear hb
    go_wp2_with fail
    go_ret
    exact ⟨rfl, HO.out.1⟩

set_option maxRecDepth 100000 in
theorem lifted (os : Os) (started : os.Started) (H : Type) (enc : TypeId × Value → H) :
    ReturnsInHanded {} Try.checked os 3 .any (Rows.mappingTwiceSpec.pre6 enc Try.prog Try.f3 Rows.mappingTwiceRow.domain false) (Rows.mappingTwiceSpec.post enc Try.prog Try.f3 false true false false) := by
  refine returnsInHanded_of_change (C := Try.checked) own started (by kernel_rfl) Try.func3
    (ChangeSpec.witness6 (enc := enc) (C := Try.checked) false ⟨#[], #[.slice none 0 0], []⟩ 8 (by kernel_rfl) (by kernel_rfl) (by kernel_rfl) (by kernel_rfl)) ?_
  intro W base args ds gs before hval0 hW hcnd _
  have hval : ∀ (j : Nat) t v, Try.f3.params[j]? = some t → args[j]? = some v → Value.okWide Try.prog W .any base t v := hval0
  have hW' := hW
  obtain ⟨p, q, hA0, hV, rfl, hfz, hnd⟩ := hW
  have hA : DataW.TrodAll enc Try.prog W 0 (fun _ => true) true Try.f3.params.toList args.toList ds p := hA0
  rw [Try.params3] at hA hval
  obtain ⟨v0, vs0, d0, ds0, p0, q0, hargs, rfl, rfl, h0, r0⟩ := trodAll_cons hA
  obtain ⟨rfl, rfl, rfl⟩ := trodAll_nil r0
  obtain rfl : args = #[v0] := by cases args; simp_all
  obtain ⟨rfl, rfl⟩ := trodVars_none hV
  obtain ⟨a0, len0, cap0, rfl⟩ := okWide_slice Try.underlying22 (hval 0 22 v0 rfl rfl)
  have k0 := h0
  have lt0 : ∀ x ∈ p0, x.block < W.heap.size := by obtain ⟨m, hm⟩ := k0; exact DataW.trod_lt m _ _ _ hm
  obtain ⟨z0, w0⟩ : ∃ zs, IsRow .i32 W a0 len0 cap0 zs := by
    obtain ⟨fuel, hf⟩ := h0
    rcases open_ints Try.underlying22 Try.underlying21 (by kernel_rfl) hf with ⟨hcs, _⟩ | ⟨x, l, c, zs, hcs, _, hl, hm, hz, _, hcell, hwz⟩
    · simp [Value.cells] at hcs
      obtain ⟨rfl, rfl, rfl⟩ := hcs
      exact ⟨[], .inl ⟨rfl, rfl, rfl, rfl⟩⟩
    · simp [Value.cells] at hcs
      obtain ⟨rfl, rfl, rfl⟩ := hcs
      exact ⟨zs, .inr ⟨_, rfl, hl, hm, by simpa using hz, hcell, hwz⟩⟩
  clear hA0 hval0
  refine (walk a0 len0 cap0 z0 W w0).mono fun e W' ⟨he, bel⟩ => ?_
  subst he
  exact ⟨_, rfl, _, _, _, [], _, [], hW', trodAll_mk1 (shut_bool Try.underlying4 _), (trodAll_cons_mk (Below.trod laidOut (by kernel_rfl) (of_decide_eq_true (by kernel_rfl)) k0 bel lt0) trodAll_mk0), rfl, bel.frame _, fun h => by cases h⟩

theorem over : Rows.mappingTwiceRow.holds Try.pinned (OpenSpec.ofChange Rows.mappingTwiceSpec) :=
  OpenClaim.holds_of_wide 3 Try.f3 rfl rfl rfl rfl rfl rfl rfl ⟨rfl, rfl, rfl, rfl, rfl⟩ rfl rfl rfl rfl rfl (by kernel_rfl) Try.func3 (by kernel_rfl)
    (of_decide_eq_true (by kernel_rfl)) (by unfold Func.isWrapper; first | (rw [if_pos (by decide +kernel)]; kernel_rfl) | (rw [if_neg (by decide +kernel)]; exact ⟨rfl, rfl⟩))
    (fun os started H enc _ => lifted os started H enc)

end Go.Proofs.Ytemdmalcoemhnab.mappingTwice
namespace Go.Proofs.Ytemdmalcoemhnab
theorem mappingTwice_holds : Rows.MappingTwiceSaid := mappingTwice.over
#print axioms mappingTwice_holds
end Go.Proofs.Ytemdmalcoemhnab
