/-
  For every string s the law UtfRepairs returns true, and s reads behind the call as it read before. No condition.
-/
import Derived.Test.YtamohliclidpgabRows
import Derived.Test.YtamohliclidpgabUtf11
import Derived.WalkKit
import Derived.ProofKit
import Derived.OpenShut
import Derived.ShutString
import Derived.ChangeOld
import Derived.Below
namespace Go.Proofs.Ytamohliclidpgab.utfRepairs
open Go.ChangeShapes Go.WideShapes Go.ChangeAt Go.RowKit
open Go.ChangeMaps (open_string shut_string)
set_option linter.unusedVariables false

theorem own : ownKnob Try.prog.godebug = none := by kernel_rfl

set_option maxHeartbeats 2000000 in
theorem walk (a0 : ByteArray) (w0 : a0.size ≤ maxLen) (w : World) :
    Calls Try.prog 6 #[.string a0] w fun e w' => e = .returned (.bool true) ∧ Below w.heap.size w w' := by
  have hok := Ok.start w
  by_cases h : 300 < a0.size
  · go_enter Try.func6, Try.ntmps6
    go_wp2_with (first | (go_at_call 8; refine (uawake_any _).mono ?_; rintro e w' ⟨rfl, hb'⟩; (first | replace hok := hok.step hb' | replace hok := hok.alloc.step hb' | replace hok := hok.alloc.alloc.step hb'); clear hb'))
    go_ret
    exact ⟨rfl, hok.1⟩
  have m0 : Hid (a0.size ≤ 1000000) := by show _ ≤ _; omega
  have m1 : Hid (a0.size ≤ maxLen) := w0
  obtain ⟨q1, q2⟩ := repL_sound a0.data.toList
  have q3 := repL_twice a0.data.toList
  have q4 := repL_same a0.data.toList
  have q5 := repL_len a0.data.toList
  rw [len_size] at q5
  have hsz : (ByteArray.mk (repL a0.data.toList).toArray).size = (repL a0.data.toList).length := rfl
  have m2 : Hid ((ByteArray.mk (repL a0.data.toList).toArray).size ≤ 1000000) := by show _ ≤ _; rw [hsz]; omega
  have m3 : Hid ((ByteArray.mk (repL a0.data.toList).toArray).size ≤ maxLen) := by show _ ≤ _; rw [hsz]; unfold maxLen; omega
  have q6 : a0.toList = a0.data.toList := ByteArray.toList_eq a0
  clear hsz q5
  go_enter Try.func6, Try.ntmps6
  go_wp2_with (first | (go_at_call 8; refine (uawake_any _).mono ?_; rintro e w' ⟨rfl, hb'⟩; (first | replace hok := hok.step hb' | replace hok := hok.alloc.step hb' | replace hok := hok.alloc.alloc.step hb'); clear hb') | (go_at_call 24; refine (rep_any _ _ (by first | exact m0.out | exact m2.out)).mono ?_; rintro e w' ⟨rfl, hb'⟩; (first | replace hok := hok.step hb' | replace hok := hok.alloc.step hb' | replace hok := hok.alloc.alloc.step hb'); clear hb') | (go_at_call 25; refine (rrep_any _ _ m0.out).mono ?_; rintro e w' ⟨rfl, hb'⟩; (first | replace hok := hok.step hb' | replace hok := hok.alloc.step hb' | replace hok := hok.alloc.alloc.step hb'); clear hb') | (go_at_call 26; refine (cnt_any _ _ (by first | exact m1.out | exact m3.out)).mono ?_; rintro e w' ⟨rfl, hb'⟩; (first | replace hok := hok.step hb' | replace hok := hok.alloc.step hb' | replace hok := hok.alloc.alloc.step hb'); clear hb') | (go_at_call 13; refine (val_any _ _).mono ?_; rintro e w' ⟨rfl, hb'⟩; (first | replace hok := hok.step hb' | replace hok := hok.alloc.step hb' | replace hok := hok.alloc.alloc.step hb'); clear hb'))
  go_ret
  exact ⟨rfl, hok.1⟩

set_option maxRecDepth 100000 in
theorem lifted (os : Os) (started : os.Started) (H : Type) (enc : TypeId × Value → H) :
    ReturnsInHanded {} Try.checked os 6 .any (Rows.utfRepairsSpec.pre6 enc Try.prog Try.f6 Rows.utfRepairsRow.domain false) (Rows.utfRepairsSpec.post enc Try.prog Try.f6 false true false false) := by
  refine returnsInHanded_of_change (C := Try.checked) own started (by kernel_rfl) Try.func6
    (ChangeSpec.witness6 (enc := enc) (C := Try.checked) false ⟨#[], #[.string ByteArray.empty], []⟩ 8 (by kernel_rfl) (by kernel_rfl) (by kernel_rfl) (by kernel_rfl)) ?_
  intro W base args ds gs before hval0 hW hcnd _
  have hval : ∀ (j : Nat) t v, Try.f6.params[j]? = some t → args[j]? = some v → Value.okWide Try.prog W .any base t v := hval0
  have hW' := hW
  obtain ⟨p, q, hA0, hV, rfl, hfz, hnd⟩ := hW
  have hA : DataW.TrodAll enc Try.prog W 0 (fun _ => true) true Try.f6.params.toList args.toList ds p := hA0
  rw [Try.params6] at hA hval
  obtain ⟨v0, vs0, d0, ds0, p0, q0, hargs, rfl, rfl, h0, r0⟩ := trodAll_cons hA
  obtain ⟨rfl, rfl, rfl⟩ := trodAll_nil r0
  obtain rfl : args = #[v0] := by cases args; simp_all
  obtain ⟨rfl, rfl⟩ := trodVars_none hV
  obtain ⟨a0, rfl, rfl, rfl, w0⟩ := open_string Try.underlying9 (hval 0 9 v0 rfl rfl) h0
  clear hA0 hval0
  refine (walk a0 w0 W).mono fun e W' ⟨he, bel⟩ => ?_
  subst he
  exact ⟨_, rfl, _, _, _, [], _, [], hW', trodAll_mk1 (shut_bool Try.underlying4 _), (trodAll_cons_mk (shut_string Try.underlying9 w0) trodAll_mk0), rfl, bel.frame _, fun h => by cases h⟩

theorem over : Rows.utfRepairsRow.holds Try.pinned (OpenSpec.ofChange Rows.utfRepairsSpec) :=
  OpenClaim.holds_of_wide 6 Try.f6 rfl rfl rfl rfl rfl rfl rfl ⟨rfl, rfl, rfl, rfl, rfl⟩ rfl rfl rfl rfl rfl (by kernel_rfl) Try.func6 (by kernel_rfl)
    (of_decide_eq_true (by kernel_rfl)) (by unfold Func.isWrapper; first | (rw [if_pos (by decide +kernel)]; kernel_rfl) | (rw [if_neg (by decide +kernel)]; exact ⟨rfl, rfl⟩))
    (fun os started H enc _ => lifted os started H enc)

end Go.Proofs.Ytamohliclidpgab.utfRepairs
namespace Go.Proofs.Ytamohliclidpgab
theorem utfRepairs_holds : Rows.UtfRepairsSaid := utfRepairs.over
#print axioms utfRepairs_holds
end Go.Proofs.Ytamohliclidpgab
