/-
  For every int place and every string s the law LexisSpans returns true, and both read behind the call as they read before. No condition.
-/
import Derived.Test.YteimhepmcjdbpaaRows
import Derived.Test.YteimhepmcjdbpaaLex5
import Derived.WalkKit
import Derived.ProofKit
import Derived.OpenShut
import Derived.ShutString
import Derived.ChangeOld
import Derived.Below
namespace Go.Proofs.Yteimhepmcjdbpaa.lexisSpans
open Go.ChangeShapes Go.WideShapes Go.ChangeAt Go.RowKit
open Go.ChangeMaps (open_string shut_string)
set_option linter.unusedVariables false

theorem own : ownKnob Try.prog.godebug = none := by kernel_rfl

open Le in
set_option maxHeartbeats 2000000 in
theorem walk (a0 : Int) (a1 : ByteArray) (w0 : (Lit.int .i64 a0).wf = true) (w1 : a1.size ≤ maxLen) (w : World) :
    Calls Try.prog 5 #[.int .i64 a0, .string a1] w fun e w' => e = .returned (.bool true) ∧ Below w.heap.size w w' := by
  have hok := Ok.start w
  by_cases h : 200 < a1.size
  · go_enter Try.func5, Try.ntmps5
    go_wp2_with (first | (go_at_call 14; refine (awake_any _).mono ?_; rintro e w' ⟨rfl, hb'⟩; replace hok := hok.step hb'; clear hb'))
    go_ret
    exact ⟨rfl, hok.1⟩
  have m1 : a1.size ≤ maxLen := by unfold maxLen; omega
  have H1 := hid (fun w => spa_any a0 false a1 w m1)
  have H2 := hid (fun w => spa_any a0 true a1 w m1)
  have H3 := hid (fun w => rsp_any a0 false a1 w m1)
  have H4 := hid (fun w => rsp_any a0 true a1 w m1)
  have H5 := hid (fun w => all_any a0 false a1 w m1)
  have H6 := hid (fun w => all_any a0 true a1 w m1)
  have hle := spL_mono a0 a1.data.toList
  have HA := hid (fun w => awake_any w)
  clear m1
  generalize spL a0 false a1.data.toList = u at *
  generalize spL a0 true a1.data.toList = v at *
  have hle' : (u : Int) ≤ (v : Int) := by omega
  go_enter Try.func5, Try.ntmps5
  go_wp2_with fail
  refine (H1.out _).mono ?_
  rintro e w' ⟨rfl, hb'⟩
  replace hok := hok.step hb'
  clear hb'
  go_wp2_with fail
  refine (H2.out _).mono ?_
  rintro e w' ⟨rfl, hb'⟩
  replace hok := hok.step hb'
  clear hb'
  go_wp2_with fail
  refine (H3.out _).mono ?_
  rintro e w' ⟨rfl, hb'⟩
  replace hok := hok.step hb'
  clear hb'
  go_wp2_with fail
  refine (H4.out _).mono ?_
  rintro e w' ⟨rfl, hb'⟩
  replace hok := hok.step hb'
  clear hb'
  go_wp2_with fail
  refine (H6.out _).mono ?_
  rintro e w' ⟨rfl, hb'⟩
  replace hok := hok.step hb'
  clear hb'
  go_wp2_with fail
  refine (H5.out _).mono ?_
  rintro e w' ⟨rfl, hb'⟩
  replace hok := hok.step hb'
  clear hb'
  go_wp2_with fail
  refine (HA.out _).mono ?_
  rintro e w' ⟨rfl, hb'⟩
  replace hok := hok.step hb'
  clear hb'
  go_wp2_with fail
  go_ret
  exact ⟨rfl, hok.1⟩

set_option maxRecDepth 100000 in
theorem lifted (os : Os) (started : os.Started) (H : Type) (enc : TypeId × Value → H) :
    ReturnsInHanded {} Try.checked os 5 .any (Rows.lexisSpansSpec.pre6 enc Try.prog Try.f5 Rows.lexisSpansRow.domain false) (Rows.lexisSpansSpec.post enc Try.prog Try.f5 false true false false) := by
  refine returnsInHanded_of_change (C := Try.checked) own started (by kernel_rfl) Try.func5
    (ChangeSpec.witness6 (enc := enc) (C := Try.checked) false ⟨#[], #[.int .i64 0, .string ByteArray.empty], []⟩ 8 (by kernel_rfl) (by kernel_rfl) (by kernel_rfl) (by kernel_rfl)) ?_
  intro W base args ds gs before hval0 hW hcnd _
  have hval : ∀ (j : Nat) t v, Try.f5.params[j]? = some t → args[j]? = some v → Value.okWide Try.prog W .any base t v := hval0
  have hW' := hW
  obtain ⟨p, q, hA0, hV, rfl, hfz, hnd⟩ := hW
  have hA : DataW.TrodAll enc Try.prog W 0 (fun _ => true) true Try.f5.params.toList args.toList ds p := hA0
  rw [Try.params5] at hA hval
  obtain ⟨v0, vs0, d0, ds0, p0, q0, hargs, rfl, rfl, h0, r0⟩ := trodAll_cons hA
  obtain ⟨v1, vs1, d1, ds1, p1, q1, rfl, rfl, rfl, h1, r1⟩ := trodAll_cons r0
  obtain ⟨rfl, rfl, rfl⟩ := trodAll_nil r1
  obtain rfl : args = #[v0, v1] := by cases args; simp_all
  obtain ⟨rfl, rfl⟩ := trodVars_none hV
  obtain ⟨a0, rfl, rfl, rfl, w0⟩ := open_int Try.underlying3 (hval 0 3 v0 rfl rfl) h0
  obtain ⟨a1, rfl, rfl, rfl, w1⟩ := open_string Try.underlying9 (hval 1 9 v1 rfl rfl) h1
  clear hA0 hval0
  refine (walk a0 a1 w0 w1 W).mono fun e W' ⟨he, bel⟩ => ?_
  subst he
  exact ⟨_, rfl, _, _, _, [], _, [], hW', trodAll_mk1 (shut_bool Try.underlying4 _), (trodAll_cons_mk (shut_int Try.underlying3 w0) (trodAll_cons_mk (shut_string Try.underlying9 w1) trodAll_mk0)), rfl, bel.frame _, fun h => by cases h⟩

theorem over : Rows.lexisSpansRow.holds Try.pinned (OpenSpec.ofChange Rows.lexisSpansSpec) :=
  OpenClaim.holds_of_wide 5 Try.f5 rfl rfl rfl rfl rfl rfl rfl ⟨rfl, rfl, rfl, rfl, rfl⟩ rfl rfl rfl rfl rfl (by kernel_rfl) Try.func5 (by kernel_rfl)
    (of_decide_eq_true (by kernel_rfl)) (by unfold Func.isWrapper; first | (rw [if_pos (by decide +kernel)]; kernel_rfl) | (rw [if_neg (by decide +kernel)]; exact ⟨rfl, rfl⟩))
    (fun os started H enc _ => lifted os started H enc)

end Go.Proofs.Yteimhepmcjdbpaa.lexisSpans
namespace Go.Proofs.Yteimhepmcjdbpaa
theorem lexisSpans_holds : Rows.LexisSpansSaid := lexisSpans.over
#print axioms lexisSpans_holds
end Go.Proofs.Yteimhepmcjdbpaa
