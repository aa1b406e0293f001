/-
  For every rune r and every string behind the law UtfEncodes returns true, and both read behind the call as they read before. No condition.
-/
import Derived.Test.YtamohliclidpgabRows
import Derived.Test.YtamohliclidpgabUtf8
import Derived.WalkKit
import Derived.ProofKit
import Derived.OpenShut
import Derived.ShutString
import Derived.ChangeOld
import Derived.Below
namespace Go.Proofs.Ytamohliclidpgab.utfEncodes
open Go.ChangeShapes Go.WideShapes Go.ChangeAt Go.RowKit
open Go.ChangeMaps (open_string shut_string)
set_option linter.unusedVariables false

theorem own : ownKnob Try.prog.godebug = none := by kernel_rfl

set_option maxHeartbeats 1000000 in
theorem walk (a0 : Int) (a1 : ByteArray) (w0 : (Lit.int .i32 a0).wf = true) (w1 : a1.size ≤ maxLen) (w : World) :
    Calls Try.prog 4 #[.int .i32 a0, .string a1] w fun e w' => e = .returned (.bool true) ∧ Below w.heap.size w w' := by
  have hok := Ok.start w
  obtain ⟨r0, r1⟩ := bounds_i32 w0
  by_cases h : 300 < a1.size
  · go_enter Try.func4, Try.ntmps4
    go_wp2_with (first | (go_at_call 8; refine (uawake_any _).mono ?_; rintro e w' ⟨rfl, hb'⟩; (first | replace hok := hok.step hb' | replace hok := hok.alloc.step hb' | replace hok := hok.alloc.alloc.step hb'); clear hb'))
    go_ret
    exact ⟨rfl, hok.1⟩
  by_cases hsc : scB a0 = true
  · obtain ⟨o1, o2, o3⟩ := enc_ok a0 hsc a1.data.toList
    have hl : (encS a0 ++ a1).data.toList = (encS a0).data.toList ++ a1.data.toList := by simp
    have hD : Hid (∀ w, Calls Try.prog 9 #[.string (encS a0 ++ a1)] w fun e w' => e = .returned (.tuple #[.int .i32 a0, .int .i64 (encS a0).size, .bool true]) ∧ Below w.heap.size w w') := fun w => by
      have := dec_any (encS a0 ++ a1) w
      rw [hl] at this
      unfold decR decN at this
      rw [if_pos o1, o1, o2, o3, if_neg ((okL_iff _).1 o1).1] at this
      exact this
    have e4 : (encS a0).size ≤ 4 := by rw [← o3]; exact (fit_spec _).2.1
    clear o1 o2 o3 hl
    go_enter Try.func4, Try.ntmps4
    go_wp2_with (first | (go_at_call 8; refine (uawake_any _).mono ?_; rintro e w' ⟨rfl, hb'⟩; (first | replace hok := hok.step hb' | replace hok := hok.alloc.step hb' | replace hok := hok.alloc.alloc.step hb'); clear hb') | (go_at_call 14; refine (enc_any _ _).mono ?_; rintro e w' ⟨rfl, rfl⟩) | (go_at_call 15; refine (sc_any _ _).mono ?_; rintro e w' ⟨rfl, rfl⟩) | (go_at_call 16; refine (rsc_any _ _).mono ?_; rintro e w' ⟨rfl, rfl⟩) | (go_at_call 17; refine (renc_any _ _).mono ?_; rintro e w' ⟨rfl, hb'⟩; (first | replace hok := hok.step hb' | replace hok := hok.alloc.step hb' | replace hok := hok.alloc.alloc.step hb'); clear hb') | (go_at_call 9; refine (hD.out _).mono ?_; rintro e w' ⟨rfl, hb'⟩; (first | replace hok := hok.step hb' | replace hok := hok.alloc.step hb' | replace hok := hok.alloc.alloc.step hb'); clear hb'))
    go_ret
    exact ⟨rfl, hok.1⟩
  · have hsc' : scB a0 = false := by simpa using hsc
    clear hsc
    go_enter Try.func4, Try.ntmps4
    go_wp2_with (first | (go_at_call 8; refine (uawake_any _).mono ?_; rintro e w' ⟨rfl, hb'⟩; (first | replace hok := hok.step hb' | replace hok := hok.alloc.step hb' | replace hok := hok.alloc.alloc.step hb'); clear hb') | (go_at_call 14; refine (enc_any _ _).mono ?_; rintro e w' ⟨rfl, rfl⟩) | (go_at_call 15; refine (sc_any _ _).mono ?_; rintro e w' ⟨rfl, rfl⟩) | (go_at_call 16; refine (rsc_any _ _).mono ?_; rintro e w' ⟨rfl, rfl⟩) | (go_at_call 17; refine (renc_any _ _).mono ?_; rintro e w' ⟨rfl, hb'⟩; (first | replace hok := hok.step hb' | replace hok := hok.alloc.step hb' | replace hok := hok.alloc.alloc.step hb'); clear hb'))
    go_ret
    exact ⟨rfl, hok.1⟩

set_option maxRecDepth 100000 in
theorem lifted (os : Os) (started : os.Started) (H : Type) (enc : TypeId × Value → H) :
    ReturnsInHanded {} Try.checked os 4 .any (Rows.utfEncodesSpec.pre6 enc Try.prog Try.f4 Rows.utfEncodesRow.domain false) (Rows.utfEncodesSpec.post enc Try.prog Try.f4 false true false false) := by
  refine returnsInHanded_of_change (C := Try.checked) own started (by kernel_rfl) Try.func4
    (ChangeSpec.witness6 (enc := enc) (C := Try.checked) false ⟨#[], #[.int .i32 0, .string ByteArray.empty], []⟩ 8 (by kernel_rfl) (by kernel_rfl) (by kernel_rfl) (by kernel_rfl)) ?_
  intro W base args ds gs before hval0 hW hcnd _
  have hval : ∀ (j : Nat) t v, Try.f4.params[j]? = some t → args[j]? = some v → Value.okWide Try.prog W .any base t v := hval0
  have hW' := hW
  obtain ⟨p, q, hA0, hV, rfl, hfz, hnd⟩ := hW
  have hA : DataW.TrodAll enc Try.prog W 0 (fun _ => true) true Try.f4.params.toList args.toList ds p := hA0
  rw [Try.params4] at hA hval
  obtain ⟨v0, vs0, d0, ds0, p0, q0, hargs, rfl, rfl, h0, r0⟩ := trodAll_cons hA
  obtain ⟨v1, vs1, d1, ds1, p1, q1, rfl, rfl, rfl, h1, r1⟩ := trodAll_cons r0
  obtain ⟨rfl, rfl, rfl⟩ := trodAll_nil r1
  obtain rfl : args = #[v0, v1] := by cases args; simp_all
  obtain ⟨rfl, rfl⟩ := trodVars_none hV
  obtain ⟨a0, rfl, rfl, rfl, w0⟩ := open_int Try.underlying21 (hval 0 21 v0 rfl rfl) h0
  obtain ⟨a1, rfl, rfl, rfl, w1⟩ := open_string Try.underlying9 (hval 1 9 v1 rfl rfl) h1
  clear hA0 hval0
  refine (walk a0 a1 w0 w1 W).mono fun e W' ⟨he, bel⟩ => ?_
  subst he
  exact ⟨_, rfl, _, _, _, [], _, [], hW', trodAll_mk1 (shut_bool Try.underlying4 _), (trodAll_cons_mk (shut_int Try.underlying21 w0) (trodAll_cons_mk (shut_string Try.underlying9 w1) trodAll_mk0)), rfl, bel.frame _, fun h => by cases h⟩

theorem over : Rows.utfEncodesRow.holds Try.pinned (OpenSpec.ofChange Rows.utfEncodesSpec) :=
  OpenClaim.holds_of_wide 4 Try.f4 rfl rfl rfl rfl rfl rfl rfl ⟨rfl, rfl, rfl, rfl, rfl⟩ rfl rfl rfl rfl rfl (by kernel_rfl) Try.func4 (by kernel_rfl)
    (of_decide_eq_true (by kernel_rfl)) (by unfold Func.isWrapper; first | (rw [if_pos (by decide +kernel)]; kernel_rfl) | (rw [if_neg (by decide +kernel)]; exact ⟨rfl, rfl⟩))
    (fun os started H enc _ => lifted os started H enc)

end Go.Proofs.Ytamohliclidpgab.utfEncodes
namespace Go.Proofs.Ytamohliclidpgab
theorem utfEncodes_holds : Rows.UtfEncodesSaid := utfEncodes.over
#print axioms utfEncodes_holds
end Go.Proofs.Ytamohliclidpgab
