/-
  For every two strings s and set and every two ints classes and from the law OctetSpans returns true, and all four read behind the call as they read before. No condition.
-/
import Derived.Test.YtamohliclidpgaaRows
import Derived.Test.YtamohliclidpgaaOct5
import Derived.WalkKit
import Derived.ProofKit
import Derived.OpenShut
import Derived.ShutString
import Derived.ChangeOld
import Derived.Below
namespace Go.Proofs.Ytamohliclidpgaa.octetSpans
open Go.ChangeShapes Go.WideShapes Go.ChangeAt Go.RowKit
open Go.ChangeMaps (open_string shut_string)
set_option linter.unusedVariables false

theorem own : ownKnob Try.prog.godebug = none := by kernel_rfl

set_option maxHeartbeats 1000000 in
theorem walk (a0 : ByteArray) (a1 : Int) (a2 : Int) (a3 : ByteArray) (w0 : a0.size ≤ maxLen) (w1 : (Lit.int .i64 a1).wf = true) (w2 : (Lit.int .i64 a2).wf = true) (w3 : a3.size ≤ maxLen) (w : World) :
    Calls Try.prog 7 #[.string a0, .int .i64 a1, .int .i64 a2, .string a3] w fun e w' => e = .returned (.bool true) ∧ Below w.heap.size w w' := by
  have hok := Ok.start w
  obtain ⟨f0, f1⟩ := bounds_i64 w2
  by_cases h : 300 < a0.size
  · go_enter Try.func7, Try.ntmps7
    go_wp2_with (first | (go_at_call 11; refine (awake_any _).mono ?_; rintro e w' ⟨rfl, hb'⟩; replace hok := hok.step hb'; clear hb'))
    go_ret
    exact ⟨rfl, hok.1⟩
  by_cases h' : 50 < a3.size
  · go_enter Try.func7, Try.ntmps7
    go_wp2_with (first | (go_at_call 11; refine (awake_any _).mono ?_; rintro e w' ⟨rfl, hb'⟩; replace hok := hok.step hb'; clear hb'))
    go_ret
    exact ⟨rfl, hok.1⟩
  have m1 : Hid (a0.size ≤ maxLen) := w0
  have m2 : Hid (a3.size ≤ maxLen) := w3
  go_enter Try.func7, Try.ntmps7
  go_wp2
  go_loop [9, 10] (fun v i => ∃ k : Nat, k ≤ a0.size ∧ i = .int .i64 k ∧ v = .int .i64 (fI (hitB a0 a3.data.toList a2) k)) (fun _ i => a0.size - (intOf i).toNat)
  case atStart => exact ⟨0, Nat.zero_le _, rfl, rfl⟩
  case round =>
    obtain ⟨k, hk, rfl, rfl⟩ := hrel
    by_cases hlt : k < a0.size
    · have hat := hit_at a0 a3.data.toList a2 k hlt
      have hsu := fI_succ (hitB a0 a3.data.toList a2) k
      have HS : Hid (fI (hitB a0 a3.data.toList a2) (k + 1) = _) := hsu
      have HA : Hid (hitB a0 a3.data.toList a2 k = _) := hat
      clear hsu hat
      have fin : ∀ v : Int, fI (hitB a0 a3.data.toList a2) (k + 1) = v → Hid (fI (hitB a0 a3.data.toList a2) (k + 1) = v) := fun _ h => h
      by_cases hf : a2 ≤ (k : Int)
      · by_cases hw : fI (hitB a0 a3.data.toList a2) k < 0
        · by_cases hi : inB (a0[k].toNat : Int) a3.data.toList = true
          · have F := fin k (by rw [HS.out, if_pos hw, HA.out]; simp [hf, hi])
            clear fin HS HA
            go_wp2_with (first | (go_at_call 20; refine (in_any _ _ _ m2.out).mono ?_; rintro e w' ⟨rfl, rfl⟩))
            go_round
            case rel => exact ⟨k + 1, by omega, by go_num, int_eq F.out.symm⟩
            case measure => simp [intOf]; omega
          · have hi' : inB (a0[k].toNat : Int) a3.data.toList = false := by simpa using hi
            have F := fin (fI (hitB a0 a3.data.toList a2) k) (by rw [HS.out, if_pos hw, HA.out]; have := fI_nn (hitB a0 a3.data.toList a2) k; simp [hi']; omega)
            clear fin HS HA hi
            go_wp2_with (first | (go_at_call 20; refine (in_any _ _ _ m2.out).mono ?_; rintro e w' ⟨rfl, rfl⟩))
            go_round
            case rel => exact ⟨k + 1, by omega, by go_num, int_eq F.out.symm⟩
            case measure => simp [intOf]; omega
        · have F := fin (fI (hitB a0 a3.data.toList a2) k) (by rw [HS.out, if_neg hw])
          clear fin HS HA
          go_wp2_with (first | (go_at_call 20; refine (in_any _ _ _ m2.out).mono ?_; rintro e w' ⟨rfl, rfl⟩))
          go_round
          case rel => exact ⟨k + 1, by omega, by go_num, int_eq F.out.symm⟩
          case measure => simp [intOf]; omega
      · have F := fin (fI (hitB a0 a3.data.toList a2) k) (by rw [HS.out, HA.out]; have := fI_nn (hitB a0 a3.data.toList a2) k; simp [hf]; omega)
        clear fin HS HA
        go_wp2_with (first | (go_at_call 20; refine (in_any _ _ _ m2.out).mono ?_; rintro e w' ⟨rfl, rfl⟩))
        go_round
        case rel => exact ⟨k + 1, by omega, by go_num, int_eq F.out.symm⟩
        case measure => simp [intOf]; omega
    · obtain rfl : k = a0.size := by omega
      go_wp2_with (first | (go_at_call 11; refine (awake_any _).mono ?_; rintro e w' ⟨rfl, hb'⟩; replace hok := hok.step hb'; clear hb') | (go_at_call 21; refine (span_any _ _ _ m1.out).mono ?_; rintro e w' ⟨rfl, rfl⟩) | (go_at_call 22; refine (rspan_any _ _ _ m1.out).mono ?_; rintro e w' ⟨rfl, rfl⟩) | (go_at_call 23; refine (find_any _ _ _ _ m1.out m2.out f1).mono ?_; rintro e w' ⟨rfl, hb'⟩; replace hok := hok.step hb'; clear hb'))
      go_ret
      exact ⟨rfl, hok.1⟩

set_option maxRecDepth 100000 in
theorem lifted (os : Os) (started : os.Started) (H : Type) (enc : TypeId × Value → H) :
    ReturnsInHanded {} Try.checked os 7 .any (Rows.octetSpansSpec.pre6 enc Try.prog Try.f7 Rows.octetSpansRow.domain false) (Rows.octetSpansSpec.post enc Try.prog Try.f7 false true false false) := by
  refine returnsInHanded_of_change (C := Try.checked) own started (by kernel_rfl) Try.func7
    (ChangeSpec.witness6 (enc := enc) (C := Try.checked) false ⟨#[], #[.string ByteArray.empty, .int .i64 0, .int .i64 0, .string ByteArray.empty], []⟩ 8 (by kernel_rfl) (by kernel_rfl) (by kernel_rfl) (by kernel_rfl)) ?_
  intro W base args ds gs before hval0 hW hcnd _
  have hval : ∀ (j : Nat) t v, Try.f7.params[j]? = some t → args[j]? = some v → Value.okWide Try.prog W .any base t v := hval0
  have hW' := hW
  obtain ⟨p, q, hA0, hV, rfl, hfz, hnd⟩ := hW
  have hA : DataW.TrodAll enc Try.prog W 0 (fun _ => true) true Try.f7.params.toList args.toList ds p := hA0
  rw [Try.params7] at hA hval
  obtain ⟨v0, vs0, d0, ds0, p0, q0, hargs, rfl, rfl, h0, r0⟩ := trodAll_cons hA
  obtain ⟨v1, vs1, d1, ds1, p1, q1, rfl, rfl, rfl, h1, r1⟩ := trodAll_cons r0
  obtain ⟨v2, vs2, d2, ds2, p2, q2, rfl, rfl, rfl, h2, r2⟩ := trodAll_cons r1
  obtain ⟨v3, vs3, d3, ds3, p3, q3, rfl, rfl, rfl, h3, r3⟩ := trodAll_cons r2
  obtain ⟨rfl, rfl, rfl⟩ := trodAll_nil r3
  obtain rfl : args = #[v0, v1, v2, v3] := by cases args; simp_all
  obtain ⟨rfl, rfl⟩ := trodVars_none hV
  obtain ⟨a0, rfl, rfl, rfl, w0⟩ := open_string Try.underlying9 (hval 0 9 v0 rfl rfl) h0
  obtain ⟨a1, rfl, rfl, rfl, w1⟩ := open_int Try.underlying3 (hval 1 3 v1 rfl rfl) h1
  obtain ⟨a2, rfl, rfl, rfl, w2⟩ := open_int Try.underlying3 (hval 2 3 v2 rfl rfl) h2
  obtain ⟨a3, rfl, rfl, rfl, w3⟩ := open_string Try.underlying9 (hval 3 9 v3 rfl rfl) h3
  clear hA0 hval0
  refine (walk a0 a1 a2 a3 w0 w1 w2 w3 W).mono fun e W' ⟨he, bel⟩ => ?_
  subst he
  exact ⟨_, rfl, _, _, _, [], _, [], hW', trodAll_mk1 (shut_bool Try.underlying4 _), (trodAll_cons_mk (shut_string Try.underlying9 w0) (trodAll_cons_mk (shut_int Try.underlying3 w1) (trodAll_cons_mk (shut_int Try.underlying3 w2) (trodAll_cons_mk (shut_string Try.underlying9 w3) trodAll_mk0)))), rfl, bel.frame _, fun h => by cases h⟩

theorem over : Rows.octetSpansRow.holds Try.pinned (OpenSpec.ofChange Rows.octetSpansSpec) :=
  OpenClaim.holds_of_wide 7 Try.f7 rfl rfl rfl rfl rfl rfl rfl ⟨rfl, rfl, rfl, rfl, rfl⟩ rfl rfl rfl rfl rfl (by kernel_rfl) Try.func7 (by kernel_rfl)
    (of_decide_eq_true (by kernel_rfl)) (by unfold Func.isWrapper; first | (rw [if_pos (by decide +kernel)]; kernel_rfl) | (rw [if_neg (by decide +kernel)]; exact ⟨rfl, rfl⟩))
    (fun os started H enc _ => lifted os started H enc)

end Go.Proofs.Ytamohliclidpgaa.octetSpans
namespace Go.Proofs.Ytamohliclidpgaa
theorem octetSpans_holds : Rows.OctetSpansSaid := octetSpans.over
#print axioms octetSpans_holds
end Go.Proofs.Ytamohliclidpgaa
