/-
  For every string s and every int classes the law EscapeSome returns true, and both read behind the call as they read before. No condition.
-/
import Derived.Test.YthdchapieninbaaRows
import Derived.Test.YthdchapieninbaaEsc15
import Derived.WalkKit
import Derived.ProofKit
import Derived.OpenShut
import Derived.ShutString
import Derived.ChangeOld
import Derived.Below
namespace Go.Proofs.Ythdchapieninbaa.escapeSome
open Go.ChangeShapes Go.WideShapes Go.ChangeAt Go.RowKit
open Go.ChangeMaps (open_string shut_string)
set_option linter.unusedVariables false

theorem own : ownKnob Try.prog.godebug = none := by kernel_rfl

theorem up_ref : fS 0 false true = fU := by
  funext x c; unfold fS fU
  rw [if_neg (by rw [isB_zero]; simp), if_pos rfl]

set_option maxHeartbeats 2000000 in
theorem walk (a0 : ByteArray) (a1 : Int) (w0 : a0.size ≤ maxLen) (w1 : (Lit.int .i64 a1).wf = true) (w : World) :
    Calls Try.prog 5 #[.string a0, .int .i64 a1] w fun e w' => e = .returned (.bool true) ∧ Below w.heap.size w w' := by
  have hok := Ok.start w
  by_cases h : 300 < a0.size
  · go_enter Try.func5, Try.ntmps5
    go_wp2_with (first | (go_at_call 7; refine (awake_any _).mono ?_; rintro e w' ⟨rfl, hb'⟩; replace hok := hok.step hb'; clear hb'))
    go_ret
    exact ⟨rfl, hok.1⟩
  have lu : (ByteArray.mk (repl fU a0.data.toList).toArray).data.toList = repl fU a0.data.toList := by simp
  have ls : (ByteArray.mk (repl (fS a1 false false) a0.data.toList).toArray).data.toList = repl (fS a1 false false) a0.data.toList := by simp
  have zu : (ByteArray.mk (repl fU a0.data.toList).toArray).size ≤ 1000000 := by
    rw [sz_list, lu]; have := repl_len fU (fun x c _ => Nat.le_refl 3) a0.data.toList; rw [len_size] at this; omega
  have zs : (ByteArray.mk (repl (fS a1 false false) a0.data.toList).toArray).size ≤ 1000000 := by
    rw [sz_list, ls]; have := repl_len (fS a1 false false) (fun x c h => fS_len a1 x c h) a0.data.toList; rw [len_size] at this; omega
  have hU := fun w => upp_any a0 w (by omega)
  have hS := fun w => som_any a0 a1 w (by omega)
  have hR := fun w => rsome_any a0 a1 false false w (by omega)
  have hV := fun w => rsome_any a0 0 false true w (by omega)
  rw [up_ref] at hV
  have hW := fun w => upp_any ⟨(repl fU a0.data.toList).toArray⟩ w zu
  rw [lu, up_twice] at hW
  have hX := fun w => upp_any ⟨(repl (fS a1 false false) a0.data.toList).toArray⟩ w zs
  have hY := fun w => rsome_any ⟨(repl (fS a1 false false) a0.data.toList).toArray⟩ 0 false true w zs
  rw [up_ref] at hY
  have HU := hid hU
  have HS := hid hS
  have HR := hid hR
  have HV := hid hV
  have HW := hid hW
  have HX := hid hX
  have HY := hid hY
  clear hU hS hR hV hW hX hY lu ls zu zs
  generalize (⟨(repl fU (ByteArray.mk (repl (fS a1 false false) a0.data.toList).toArray).data.toList).toArray⟩ : ByteArray) = x at *
  generalize (⟨(repl fU a0.data.toList).toArray⟩ : ByteArray) = u at *
  generalize (⟨(repl (fS a1 false false) a0.data.toList).toArray⟩ : ByteArray) = s at *
  go_enter Try.func5, Try.ntmps5
  go_wp2_with fail
  refine (HU.out _).mono ?_
  rintro e w1 ⟨rfl, hb'⟩
  replace hok := hok.step hb'
  clear hb'
  go_wp2_with fail
  refine (HS.out _).mono ?_
  rintro e w2 ⟨rfl, hb'⟩
  replace hok := hok.step hb'
  clear hb'
  go_wp2_with fail
  refine (HR.out _).mono ?_
  rintro e w3 ⟨rfl, hb'⟩
  replace hok := hok.step hb'
  clear hb'
  go_wp2_with fail
  refine (HV.out _).mono ?_
  rintro e w4 ⟨rfl, hb'⟩
  replace hok := hok.step hb'
  clear hb'
  go_wp2_with fail
  refine (HW.out _).mono ?_
  rintro e w5 ⟨rfl, hb'⟩
  replace hok := hok.step hb'
  clear hb'
  go_wp2_with fail
  refine (HS.out _).mono ?_
  rintro e w6 ⟨rfl, hb'⟩
  replace hok := hok.step hb'
  clear hb'
  go_wp2_with fail
  refine (HX.out _).mono ?_
  rintro e w7 ⟨rfl, hb'⟩
  replace hok := hok.step hb'
  clear hb'
  go_wp2_with fail
  refine (HS.out _).mono ?_
  rintro e w8 ⟨rfl, hb'⟩
  replace hok := hok.step hb'
  clear hb'
  go_wp2_with fail
  refine (HY.out _).mono ?_
  rintro e w9 ⟨rfl, hb'⟩
  replace hok := hok.step hb'
  clear hb'
  go_wp2_with fail
  refine (awake_any _).mono ?_
  rintro e w10 ⟨rfl, hb'⟩
  replace hok := hok.step hb'
  clear hb'
  go_wp2_with fail
  go_ret
  exact ⟨rfl, hok.1⟩

set_option maxRecDepth 100000 in
theorem lifted (os : Os) (started : os.Started) (H : Type) (enc : TypeId × Value → H) :
    ReturnsInHanded {} Try.checked os 5 .any (Rows.escapeSomeSpec.pre6 enc Try.prog Try.f5 Rows.escapeSomeRow.domain false) (Rows.escapeSomeSpec.post enc Try.prog Try.f5 false true false false) := by
  refine returnsInHanded_of_change (C := Try.checked) own started (by kernel_rfl) Try.func5
    (ChangeSpec.witness6 (enc := enc) (C := Try.checked) false ⟨#[], #[.string ByteArray.empty, .int .i64 0], []⟩ 8 (by kernel_rfl) (by kernel_rfl) (by kernel_rfl) (by kernel_rfl)) ?_
  intro W base args ds gs before hval0 hW hcnd _
  have hval : ∀ (j : Nat) t v, Try.f5.params[j]? = some t → args[j]? = some v → Value.okWide Try.prog W .any base t v := hval0
  have hW' := hW
  obtain ⟨p, q, hA0, hV, rfl, hfz, hnd⟩ := hW
  have hA : DataW.TrodAll enc Try.prog W 0 (fun _ => true) true Try.f5.params.toList args.toList ds p := hA0
  rw [Try.params5] at hA hval
  obtain ⟨v0, vs0, d0, ds0, p0, q0, hargs, rfl, rfl, h0, r0⟩ := trodAll_cons hA
  obtain ⟨v1, vs1, d1, ds1, p1, q1, rfl, rfl, rfl, h1, r1⟩ := trodAll_cons r0
  obtain ⟨rfl, rfl, rfl⟩ := trodAll_nil r1
  obtain rfl : args = #[v0, v1] := by cases args; simp_all
  obtain ⟨rfl, rfl⟩ := trodVars_none hV
  obtain ⟨a0, rfl, rfl, rfl, w0⟩ := open_string Try.underlying9 (hval 0 9 v0 rfl rfl) h0
  obtain ⟨a1, rfl, rfl, rfl, w1⟩ := open_int Try.underlying3 (hval 1 3 v1 rfl rfl) h1
  clear hA0 hval0
  refine (walk a0 a1 w0 w1 W).mono fun e W' ⟨he, bel⟩ => ?_
  subst he
  exact ⟨_, rfl, _, _, _, [], _, [], hW', trodAll_mk1 (shut_bool Try.underlying4 _), (trodAll_cons_mk (shut_string Try.underlying9 w0) (trodAll_cons_mk (shut_int Try.underlying3 w1) trodAll_mk0)), rfl, bel.frame _, fun h => by cases h⟩

theorem over : Rows.escapeSomeRow.holds Try.pinned (OpenSpec.ofChange Rows.escapeSomeSpec) :=
  OpenClaim.holds_of_wide 5 Try.f5 rfl rfl rfl rfl rfl rfl rfl ⟨rfl, rfl, rfl, rfl, rfl⟩ rfl rfl rfl rfl rfl (by kernel_rfl) Try.func5 (by kernel_rfl)
    (of_decide_eq_true (by kernel_rfl)) (by unfold Func.isWrapper; first | (rw [if_pos (by decide +kernel)]; kernel_rfl) | (rw [if_neg (by decide +kernel)]; exact ⟨rfl, rfl⟩))
    (fun os started H enc _ => lifted os started H enc)

end Go.Proofs.Ythdchapieninbaa.escapeSome
namespace Go.Proofs.Ythdchapieninbaa
theorem escapeSome_holds : Rows.EscapeSomeSaid := escapeSome.over
#print axioms escapeSome_holds
end Go.Proofs.Ythdchapieninbaa
