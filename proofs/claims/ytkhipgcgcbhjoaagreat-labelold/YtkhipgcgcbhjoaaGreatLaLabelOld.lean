/-
  For every text s the law LabelOld returns true. No condition.
-/
import Derived.Test.YtkhipgcgcbhjoaaGreatRows
import Derived.Test.YtkhipgcgcbhjoaaGreatLa57
import Derived.WalkKit
import Derived.ProofKit
import Derived.OpenShut
import Derived.ShutString
import Derived.ChangeOld
import Derived.Below
namespace Go.Proofs.YtkhipgcgcbhjoaaGreat.labelOld
open Go.ChangeShapes Go.WideShapes Go.ChangeAt Go.RowKit
open Go.ChangeMaps (open_string shut_string)
set_option linter.unusedVariables false

theorem own : ownKnob Tryz.prog.godebug = none := by kernel_rfl

open La in
set_option maxHeartbeats 8000000 in
set_option maxRecDepth 100000 in
theorem walk (a0 : ByteArray) (w0 : a0.size ≤ maxLen) (w : World) :
    Calls Tryz.prog 4 #[.string a0] w fun e w' => e = .returned (.bool true) ∧ Below w.heap.size w w' := by
  have HO := La.hr (Ok.start w)
  have HCk := La.hr (checker_any w)
  by_cases hl : 200 < a0.size
  · go_enter Tryz.func4, Tryz.ntmps4
    go_wp2_with fail
    refine HCk.out.mono ?_
    rintro e W1 ⟨c, b, f, j, g, p, d, u, s, rfl, hC, hb⟩
    have HC := La.hr hC
    replace HO := La.hr (HO.out.step hb)
    clear hb hC HCk
    go_wp2_with fail
    refine (awake16_any HC.out).mono ?_
    rintro e w' ⟨rfl, hb⟩
    replace HO := La.hr (HO.out.step hb)
    clear hb
    go_wp2_with fail
    go_ret
    exact ⟨rfl, HO.out.1⟩
  · have HOl := La.hr (fun W => old_any a0 (by omega) W)
    have HRo := La.hr (fun W => rold_any a0 (by omega) W)
    have HCd := La.hr (fun W => coded_any a0 (by omega) W)
    have HRc := La.hr (fun W => rcoded_any a0 (by omega) W)
    generalize oldP (Pu.bsI a0) = o at *
    generalize cdS a0 = k at *
    have hl' : ¬ (200 : Int) < (a0.size : Int) := by omega
    clear hl
    go_enter Tryz.func4, Tryz.ntmps4
    go_wp2_with fail
    refine HCk.out.mono ?_
    rintro e W1 ⟨c, b, f, j, g, p, d, u, s, rfl, hC, hb⟩
    have HC := La.hr hC
    replace HO := La.hr (HO.out.step hb)
    clear hb hC HCk
    go_wp2_with fail
    refine (HOl.out _).mono ?_
    rintro e W2 ⟨rfl, hb⟩
    replace HC := La.hr (HC.out.step hb)
    replace HO := La.hr (HO.out.step hb)
    clear hb HOl
    go_wp2_with fail
    refine (HRo.out _).mono ?_
    rintro e W3 ⟨rfl, hb⟩
    replace HC := La.hr (HC.out.step hb)
    replace HO := La.hr (HO.out.step hb)
    clear hb HRo
    go_wp2_with fail
    refine (HCd.out _).mono ?_
    rintro e W4 ⟨rfl, hb⟩
    replace HC := La.hr (HC.out.step hb)
    replace HO := La.hr (HO.out.step hb)
    clear hb HCd
    go_wp2_with fail
    refine (HRc.out _).mono ?_
    rintro e W5 ⟨rfl, hb⟩
    replace HC := La.hr (HC.out.step hb)
    replace HO := La.hr (HO.out.step hb)
    clear hb HRc
    cases k
    all_goals
      go_wp2_with fail
      refine (awake16_any HC.out).mono ?_
      rintro e w' ⟨rfl, hb⟩
      replace HO := La.hr (HO.out.step hb)
      clear hb
      go_wp2_with fail
      go_ret
      exact ⟨rfl, HO.out.1⟩

set_option maxRecDepth 100000 in
theorem lifted (os : Os) (started : os.Started) (H : Type) (enc : TypeId × Value → H) :
    ReturnsInHanded {} Tryz.checked os 4 .any (Rows.labelOldSpec.pre6 enc Tryz.prog Tryz.f4 Rows.labelOldRow.domain false) (Rows.labelOldSpec.post enc Tryz.prog Tryz.f4 false true false false) := by
  refine returnsInHanded_of_change (C := Tryz.checked) own started (by kernel_rfl) Tryz.func4
    (ChangeSpec.witness6 (enc := enc) (C := Tryz.checked) false ⟨#[], #[.string ByteArray.empty], []⟩ 8 (by kernel_rfl) (by kernel_rfl) (by kernel_rfl) (by kernel_rfl)) ?_
  intro W base args ds gs before hval0 hW hcnd _
  have hval : ∀ (j : Nat) t v, Tryz.f4.params[j]? = some t → args[j]? = some v → Value.okWide Tryz.prog W .any base t v := hval0
  have hW' := hW
  obtain ⟨p, q, hA0, hV, rfl, hfz, hnd⟩ := hW
  have hA : DataW.TrodAll enc Tryz.prog W 0 (fun _ => true) true Tryz.f4.params.toList args.toList ds p := hA0
  rw [Tryz.params4] at hA hval
  obtain ⟨v0, vs0, d0, ds0, p0, q0, hargs, rfl, rfl, h0, r0⟩ := trodAll_cons hA
  obtain ⟨rfl, rfl, rfl⟩ := trodAll_nil r0
  obtain rfl : args = #[v0] := by cases args; simp_all
  obtain ⟨rfl, rfl⟩ := trodVars_none hV
  obtain ⟨a0, rfl, rfl, rfl, w0⟩ := open_string Tryz.underlying9 (hval 0 9 v0 rfl rfl) h0
  clear hA0 hval0
  refine (walk a0 w0 W).mono fun e W' ⟨he, bel⟩ => ?_
  subst he
  exact ⟨_, rfl, _, _, _, [], _, [], hW', trodAll_mk1 (shut_bool Tryz.underlying4 _), (trodAll_cons_mk (shut_string Tryz.underlying9 w0) trodAll_mk0), rfl, bel.frame _, fun h => by cases h⟩

theorem over : Rows.labelOldRow.holds Tryz.pinned (OpenSpec.ofChange Rows.labelOldSpec) :=
  OpenClaim.holds_of_wide 4 Tryz.f4 rfl rfl rfl rfl rfl rfl rfl ⟨rfl, rfl, rfl, rfl, rfl⟩ rfl rfl rfl rfl rfl (by kernel_rfl) Tryz.func4 (by kernel_rfl)
    (of_decide_eq_true (by kernel_rfl)) (by unfold Func.isWrapper; first | (rw [if_pos (by decide +kernel)]; kernel_rfl) | (rw [if_neg (by decide +kernel)]; exact ⟨rfl, rfl⟩))
    (fun os started H enc _ => lifted os started H enc)

end Go.Proofs.YtkhipgcgcbhjoaaGreat.labelOld
namespace Go.Proofs.YtkhipgcgcbhjoaaGreat
theorem labelOld_holds : Rows.LabelOldSaid := labelOld.over
#print axioms labelOld_holds
end Go.Proofs.YtkhipgcgcbhjoaaGreat
