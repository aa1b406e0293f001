/-
  For every slice l of runes the law LabelFaults returns true, and l reads behind the call as it read before. No condition.
-/
import Derived.Test.YtkhipgcgcbhjoaaGreatRows
import Derived.Test.YtkhipgcgcbhjoaaGreatLa57
import Derived.WalkKit
import Derived.ProofKit
import Derived.OpenShut
import Derived.ShutString
import Derived.ChangeOld
import Derived.Below
namespace Go.Proofs.YtkhipgcgcbhjoaaGreat.labelFaults
open Go.ChangeShapes Go.WideShapes Go.ChangeAt Go.RowKit
open Go.ChangeMaps (open_string shut_string)
set_option linter.unusedVariables false

theorem own : ownKnob Tryz.prog.godebug = none := by kernel_rfl
theorem laidOut : laidOutB Tryz.prog = true := by kernel_rfl

/-- WHAT THE WALK IS TOLD OF A SLICE OF INTEGERS THAT CAME IN: it is nil; or it leads to a row of 'cap' cells, the numbers 'zs' (the first 'len' are its elements, the rest its spare room), each fitting its kind. -/
def IsRow (k : IntKind) (w : World) (a : Option Addr) (len cap : Nat) (zs : List Int) : Prop :=
  (a = none ∧ len = 0 ∧ cap = 0 ∧ zs = []) ∨
  ∃ x, a = some x ∧ len ≤ cap ∧ cap ≤ maxLen ∧ zs.length = cap ∧ (∀ i, i < zs.length → w.cell? (x.add i) = some (.int k (zs.getD i 0))) ∧ ∀ n ∈ zs, (Lit.int k n).wf = true

open Od Pr Nf La in
set_option maxHeartbeats 8000000 in
set_option maxRecDepth 100000 in
theorem walk (a0 : Option Addr) (len0 cap0 : Nat) (z0 : List Int) (w : World) (w0 : IsRow .i32 w a0 len0 cap0 z0) :
    Calls Tryz.prog 3 #[.slice a0 len0 cap0] w fun e w' => e = .returned (.bool true) ∧ Below w.heap.size w w' := by
  obtain ⟨hlen, hS, hZ⟩ := Pu.row_sl w0
  have HZ : Hid (∀ y ∈ z0.take len0, Pr.I32 y) := fun y hy => ⟨(hZ y hy).1, (hZ y hy).2⟩
  have HSl : Hid (Sl .i32 w (.slice a0 len0 cap0) (z0.take len0)) := ⟨a0, cap0, by rw [hlen], hS⟩
  have hLen : Hid ((z0.take len0).length = len0) := hlen
  generalize z0.take len0 = zs at *
  clear w0 hS hZ hlen
  have HO := La.hr (Ok.start w)
  have HCk := La.hr (checker_any w)
  by_cases hl : 10 < len0
  · go_enter Tryz.func3, Tryz.ntmps3
    go_wp2_with fail
    refine HCk.out.mono ?_
    rintro e W1 ⟨c, b, f, j, g, p, d, u, s, rfl, hC, hb⟩
    have HC := La.hr hC
    replace HO := La.hr (HO.out.step hb)
    clear hb hC HCk
    go_wp2_with fail
    refine (awake16_any HC.out).mono ?_
    rintro e w' ⟨rfl, hb⟩
    replace HO := La.hr (HO.out.step hb)
    clear hb
    go_wp2_with fail
    go_ret
    exact ⟨rfl, HO.out.1⟩
  · have hn : Hid (zs.length ≤ 10) := by show _ ≤ _; have := hLen.out; omega
    have hl' : ¬ (10 : Int) < (len0 : Int) := by omega
    clear hl
    go_enter Tryz.func3, Tryz.ntmps3
    go_wp2_with fail
    refine HCk.out.mono ?_
    rintro e W1 ⟨c, b, f, j, g, p, d, u, s, rfl, hC, hb⟩
    have HC := La.hr hC
    replace HO := La.hr (HO.out.step hb)
    clear hb hC HCk
    go_wp2_with fail
    refine (Pr.new_any _).mono ?_
    rintro e W2 ⟨p2, d2, u2', s2, rfl, _, hb⟩
    replace HC := La.hr (HC.out.step hb)
    replace HO := La.hr (HO.out.step hb)
    clear hb
    go_wp2_with fail
    refine (lnew_nob _ _).mono ?_
    rintro e W3 ⟨rfl, rfl⟩
    go_wp2_with fail
    refine (newbook_any _).mono ?_
    rintro e W4 ⟨b2, rfl, hb, _⟩
    replace HC := La.hr (HC.out.step hb)
    replace HO := La.hr (HO.out.step hb)
    clear hb
    go_wp2_with fail
    refine (lnew_nop _ _).mono ?_
    rintro e W5 ⟨rfl, rfl⟩
    go_wp2_with fail
    refine (fault_any HC.out (HSl.out.step HO.out.1) HZ.out (by have := hn.out; omega) true).mono ?_
    rintro e W6 ⟨rfl, hb⟩
    replace HC := La.hr (HC.out.step hb)
    replace HO := La.hr (HO.out.step hb)
    clear hb
    go_wp2_with fail
    refine (ints16_any _ _ _ (HSl.out.step HO.out.1) (by have := hn.out; omega) (fun z hz => HZ.out z hz)).mono ?_
    rintro e W7 ⟨v7, rfl, h1, hb⟩
    have S7 := La.hr h1
    replace HC := La.hr (HC.out.step hb)
    replace HO := La.hr (HO.out.step hb)
    clear hb h1
    go_wp2_with fail
    refine (rfault_any S7.out.sl (sn_some S7.out) HZ.out (by have := hn.out; omega) true).mono ?_
    rintro e W8 ⟨rfl, hb⟩
    replace HC := La.hr (HC.out.step hb)
    replace HO := La.hr (HO.out.step hb)
    clear hb S7
    go_wp2_with fail
    refine (fault_any HC.out (HSl.out.step HO.out.1) HZ.out (by have := hn.out; omega) false).mono ?_
    rintro e W9 ⟨rfl, hb⟩
    replace HC := La.hr (HC.out.step hb)
    replace HO := La.hr (HO.out.step hb)
    clear hb
    go_wp2_with fail
    refine (ints16_any _ _ _ (HSl.out.step HO.out.1) (by have := hn.out; omega) (fun z hz => HZ.out z hz)).mono ?_
    rintro e W10 ⟨v10, rfl, h1, hb⟩
    have S10 := La.hr h1
    replace HC := La.hr (HC.out.step hb)
    replace HO := La.hr (HO.out.step hb)
    clear hb h1
    go_wp2_with fail
    refine (rfault_any S10.out.sl (sn_some S10.out) HZ.out (by have := hn.out; omega) false).mono ?_
    rintro e W11 ⟨rfl, hb⟩
    replace HC := La.hr (HC.out.step hb)
    replace HO := La.hr (HO.out.step hb)
    clear hb S10
    go_wp2_with fail
    refine (awake16_any HC.out).mono ?_
    rintro e w' ⟨rfl, hb⟩
    replace HO := La.hr (HO.out.step hb)
    clear hb
    go_wp2_with fail
    go_ret
    exact ⟨rfl, HO.out.1⟩

set_option maxRecDepth 100000 in
theorem lifted (os : Os) (started : os.Started) (H : Type) (enc : TypeId × Value → H) :
    ReturnsInHanded {} Tryz.checked os 3 .any (Rows.labelFaultsSpec.pre6 enc Tryz.prog Tryz.f3 Rows.labelFaultsRow.domain false) (Rows.labelFaultsSpec.post enc Tryz.prog Tryz.f3 false true false false) := by
  refine returnsInHanded_of_change (C := Tryz.checked) own started (by kernel_rfl) Tryz.func3
    (ChangeSpec.witness6 (enc := enc) (C := Tryz.checked) false ⟨#[], #[.slice none 0 0], []⟩ 8 (by kernel_rfl) (by kernel_rfl) (by kernel_rfl) (by kernel_rfl)) ?_
  intro W base args ds gs before hval0 hW hcnd _
  have hval : ∀ (j : Nat) t v, Tryz.f3.params[j]? = some t → args[j]? = some v → Value.okWide Tryz.prog W .any base t v := hval0
  have hW' := hW
  obtain ⟨p, q, hA0, hV, rfl, hfz, hnd⟩ := hW
  have hA : DataW.TrodAll enc Tryz.prog W 0 (fun _ => true) true Tryz.f3.params.toList args.toList ds p := hA0
  rw [Tryz.params3] at hA hval
  obtain ⟨v0, vs0, d0, ds0, p0, q0, hargs, rfl, rfl, h0, r0⟩ := trodAll_cons hA
  obtain ⟨rfl, rfl, rfl⟩ := trodAll_nil r0
  obtain rfl : args = #[v0] := by cases args; simp_all
  obtain ⟨rfl, rfl⟩ := trodVars_none hV
  obtain ⟨a0, len0, cap0, rfl⟩ := okWide_slice Tryz.underlying22 (hval 0 22 v0 rfl rfl)
  have k0 := h0
  have lt0 : ∀ x ∈ p0, x.block < W.heap.size := by obtain ⟨m, hm⟩ := k0; exact DataW.trod_lt m _ _ _ hm
  obtain ⟨z0, w0⟩ : ∃ zs, IsRow .i32 W a0 len0 cap0 zs := by
    obtain ⟨fuel, hf⟩ := h0
    rcases open_ints Tryz.underlying22 Tryz.underlying21 (by kernel_rfl) hf with ⟨hcs, _⟩ | ⟨x, l, c, zs, hcs, _, hl, hm, hz, _, hcell, hwz⟩
    · simp [Value.cells] at hcs
      obtain ⟨rfl, rfl, rfl⟩ := hcs
      exact ⟨[], .inl ⟨rfl, rfl, rfl, rfl⟩⟩
    · simp [Value.cells] at hcs
      obtain ⟨rfl, rfl, rfl⟩ := hcs
      exact ⟨zs, .inr ⟨_, rfl, hl, hm, by simpa using hz, hcell, hwz⟩⟩
  clear hA0 hval0
  refine (walk a0 len0 cap0 z0 W w0).mono fun e W' ⟨he, bel⟩ => ?_
  subst he
  exact ⟨_, rfl, _, _, _, [], _, [], hW', trodAll_mk1 (shut_bool Tryz.underlying4 _), (trodAll_cons_mk (Below.trod laidOut (by kernel_rfl) (of_decide_eq_true (by kernel_rfl)) k0 bel lt0) trodAll_mk0), rfl, bel.frame _, fun h => by cases h⟩

theorem over : Rows.labelFaultsRow.holds Tryz.pinned (OpenSpec.ofChange Rows.labelFaultsSpec) :=
  OpenClaim.holds_of_wide 3 Tryz.f3 rfl rfl rfl rfl rfl rfl rfl ⟨rfl, rfl, rfl, rfl, rfl⟩ rfl rfl rfl rfl rfl (by kernel_rfl) Tryz.func3 (by kernel_rfl)
    (of_decide_eq_true (by kernel_rfl)) (by unfold Func.isWrapper; first | (rw [if_pos (by decide +kernel)]; kernel_rfl) | (rw [if_neg (by decide +kernel)]; exact ⟨rfl, rfl⟩))
    (fun os started H enc _ => lifted os started H enc)

end Go.Proofs.YtkhipgcgcbhjoaaGreat.labelFaults
namespace Go.Proofs.YtkhipgcgcbhjoaaGreat
theorem labelFaults_holds : Rows.LabelFaultsSaid := labelFaults.over
#print axioms labelFaults_holds
end Go.Proofs.YtkhipgcgcbhjoaaGreat
