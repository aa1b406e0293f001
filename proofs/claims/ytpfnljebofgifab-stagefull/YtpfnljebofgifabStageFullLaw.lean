/-
  For every uint16 n the law StageFull returns true, and the argument reads behind the call as it read before. No condition.
-/
import Derived.Test.YtpfnljebofgifabRows
import Derived.Test.YtpfnljebofgifabStg13
import Derived.WalkKit
import Derived.ProofKit
import Derived.OpenShut
import Derived.ShutString
import Derived.ChangeOld
import Derived.Below
namespace Go.Proofs.Ytpfnljebofgifab.stageFull
open Go.ChangeShapes Go.WideShapes Go.ChangeAt Go.RowKit
open Go.ChangeMaps (open_string shut_string)
set_option linter.unusedVariables false

theorem own : ownKnob Try.prog.godebug = none := by kernel_rfl

set_option maxHeartbeats 4000000 in
set_option maxRecDepth 100000 in
theorem walk (a0 : Int) (w0 : (Lit.int .u16 a0).wf = true) (w : World) :
    Calls Try.prog 5 #[.int .u16 a0] w fun e w' => e = .returned (.bool true) ∧ Below w.heap.size w w' := by
  have hok := Ok.start w
  obtain ⟨h0, h1⟩ : 0 ≤ a0 ∧ a0 ≤ 65535 := by
    have e1 : IntKind.u16.min = 0 := by decide
    have e2 : IntKind.u16.max = 65535 := by decide
    simp only [Lit.wf, e1, e2, Bool.and_eq_true, decide_eq_true_eq] at w0; exact w0
  obtain ⟨k, hk1, hk2, hk⟩ : ∃ k : Nat, 4090 ≤ k ∧ k ≤ 4101 ∧ 4090 + a0 % 12 = (k : Int) := by
    exact ⟨(4090 + a0 % 12).toNat, by omega, by omega, by omega⟩
  have q1 : wrap64 a0 = a0 := by unfold wrap64; omega
  obtain ⟨i0, hi, hz0, hz1, hz2⟩ := info_parts Try.info_vrow
  have HI := hid (And.intro hi (And.intro hz0 (And.intro hz1 hz2)))
  clear hi hz0 hz1 hz2 w0
  go_enter Try.func5, Try.ntmps5
  go_wp2_with (first | (at_make; refine wpList_make_full _ rfl (.tmp 14) (.tmp 14) 25 rfl w.heap.size 43 i0 _ 3 Try.underlying25 HI.out.1 HI.out.2.1 HI.out.2.2.1 .i64 .i64 _ _ k rfl rfl rfl rfl (by rw [HI.out.2.2.2]; omega) (by unfold maxLen; omega) (Nat.le_refl _) ?_; intro w1 ho1 hg1; have HR := hid (made_row ho1); replace hok := hok.step (below_of_grown hg1 _ (Nat.le_refl _) (fun k e => by cases e)); clear ho1 hg1))
  go_loopg [18] k (fun g i wr => ∃ j : Nat, j ≤ k ∧ g = k - j ∧ i = .int .i64 j ∧ Ok w.heap.size w wr ∧ wr.rowIs w.heap.size 43 (k * 3) (cellF j))
  case atStart => exact ⟨0, Nat.zero_le _, by omega, rfl, hok, HR.out⟩
  case round =>
    clear hok HR
    obtain ⟨j, hj, hg, rfl, hok, hr⟩ := hrel
    have HG := hid hg
    clear hg
    by_cases hlt : j < k
    · have HR2 := hid (row_set3 hr)
      have hok2 := hid (show Ok w.heap.size w (((wr.setCell ⟨w.heap.size, j * 3, none⟩ (.int .i32 (2 * (j : Int)))).setCell ⟨w.heap.size, j * 3 + 1, none⟩ (.int .i32 (2 * (j : Int)))).setCell ⟨w.heap.size, j * 3 + 2, none⟩ (.int .i64 1)) from
        ⟨((hok.1.setCell (p := ⟨w.heap.size, j * 3, none⟩) (Nat.le_refl _) _).setCell (p := ⟨w.heap.size, j * 3 + 1, none⟩) (Nat.le_refl _) _).setCell (p := ⟨w.heap.size, j * 3 + 2, none⟩) (Nat.le_refl _) _, by have := hok.2; simpa [World.setCell] using this⟩)
      have c0 := hr.cell (i := j * 3) (by omega)
      have c1 := hr.cell (i := j * 3 + 1) (by omega)
      have c2 := hr.cell (i := j * 3 + 2) (by omega)
      have f0 := hr.frozen (j * 3)
      have f1 := hr.frozen (j * 3 + 1)
      have f2 := hr.frozen (j * 3 + 2)
      clear hr hok
      generalize cellF j (j * 3) = y0 at *
      generalize cellF j (j * 3 + 1) = y1 at *
      generalize cellF j (j * 3 + 2) = y2 at *
      have q2 : wrap64 (2 * (j : Int)) = 2 * (j : Int) := by unfold wrap64; omega
      have q3 : wrap32 (2 * (j : Int)) = 2 * (j : Int) := by unfold wrap32; omega
      have q4 : (j : Int) < (k : Int) := by omega
      go_wp2
      go_roundg (k - (j + 1))
      case measure => rw [HG.out]; omega
      case rel => exact ⟨j + 1, by omega, rfl, by go_num, hok2.out, HR2.out⟩
    · have e : j = k := by omega
      subst e
      have HB := hid (build_any (vin_full hr) (by rw [full_len]; unfold maxLen; omega) 0)
      have HR2 := hid hr
      clear hr
      go_wp2_with fail
      refine HB.out.mono ?_
      rintro e w2 ⟨hb2, ⟨h3, rfl⟩ | ⟨h3, p, hp, rfl, ht⟩⟩
      · have h4 : 4096 < j := by
          rw [full_check] at h3
          rcases Nat.lt_or_ge 4096 j with h | h
          · exact h
          · rw [if_neg (by omega)] at h3; exact absurd rfl h3
        have h5 : check (full j) = 10 := by rw [full_check, if_pos h4]
        rw [h5]
        have h6 : (4096 : Int) < (j : Int) := by omega
        have hr2 := HR2.out.of_block (hb2.block w.heap.size HR2.out.lt)
        replace hok := hok.step hb2
        obtain ⟨l2, hl2, hv2⟩ := vin_bad hr2 (by omega)
        have hc2 : check l2 = 10 := by unfold check; rw [hl2, if_pos h4]
        have HB2 := hid (build_any hv2 (by rw [hl2]; unfold maxLen; omega) 0)
        have c0 := hr2.cell (i := 0) (by omega)
        have f0 := hr2.frozen 0
        have hok2 := hid (show Ok w.heap.size w (w2.setCell ⟨w.heap.size, 0, none⟩ (.int .i32 (-1))) from ⟨hok.1.setCell (p := ⟨w.heap.size, 0, none⟩) (Nat.le_refl _) _, by have := hok.2; simpa [World.setCell] using this⟩)
        clear hok hr2 HR2 HB hb2 h3 h5 hv2
        generalize cellF j 0 = y0 at *
        go_wp2_with fail
        refine HB2.out.mono ?_
        rintro e w3 ⟨hb3, ⟨h3, rfl⟩ | ⟨h3, p, hp, rfl, ht⟩⟩
        · rw [hc2]
          have hok3 := hok2.out.step hb3
          clear hb3 HB2 hok2 h3
          go_wp2_with (go_at_call 6; refine (awake_any _).mono ?_; rintro e w' ⟨rfl, hb'⟩; replace hok3 := hok3.step hb'; clear hb')
          go_ret
          exact ⟨rfl, hok3.1⟩
        · rw [hc2] at h3; simp at h3
      · have h4 : ¬ 4096 < j := by
          intro h
          rw [full_check, if_pos h] at h3; simp at h3
        have h6 : ¬ (4096 : Int) < (j : Int) := by omega
        replace hok := hok.step hb2
        clear HB HR2 hb2 h3
        have g1 : getV 0 (full j) (2 * (j : Int) - 2) = 1 := by
          obtain ⟨m, rfl⟩ : ∃ m, j = m + 1 := ⟨j - 1, by omega⟩
          unfold getV
          rw [if_neg (by omega)]
          have e : 2 * ((m + 1 : Nat) : Int) - 2 = 2 * (m : Int) := by omega
          rw [e, full_last]
        have g2 : getV 0 (full j) (2 * (j : Int) - 1) = 0 := by
          unfold getV
          rw [if_neg (by omega), full_odd _ _ (by omega)]
        have q2 : wrap64 (2 * (j : Int)) = 2 * (j : Int) := by unfold wrap64; omega
        have q3 : wrap64 (2 * (j : Int) - 2) = 2 * (j : Int) - 2 := by unfold wrap64; omega
        have q4 : wrap32 (2 * (j : Int) - 2) = 2 * (j : Int) - 2 := by unfold wrap32; omega
        have q5 : wrap64 (2 * (j : Int) - 1) = 2 * (j : Int) - 1 := by unfold wrap64; omega
        have q6 : wrap32 (2 * (j : Int) - 1) = 2 * (j : Int) - 1 := by unfold wrap32; omega
        have HT := hid ht
        clear ht
        go_wp2_with fail
        refine (get_any HT.out _).mono ?_
        rintro e w3 ⟨rfl, n3, hw3⟩
        have HT3 := hid (show Tab w3 p (full j) 0 by rw [hw3]; exact HT.out.drewN _)
        have hok3 : Ok w.heap.size w w3 := by rw [hw3]; exact ⟨below_drewN hok.1 _, hok.2⟩
        clear hw3 HT hok
        rw [g1]
        go_wp2_with fail
        refine (get_any HT3.out _).mono ?_
        rintro e w4 ⟨rfl, n4, hw4⟩
        have hok4 : Ok w.heap.size w w4 := by rw [hw4]; exact ⟨below_drewN hok3.1 _, hok3.2⟩
        clear hw4 HT3 hok3
        rw [g2]
        go_wp2_with (go_at_call 6; refine (awake_any _).mono ?_; rintro e w' ⟨rfl, hb'⟩; replace hok4 := hok4.step hb'; clear hb')
        go_ret
        exact ⟨rfl, hok4.1⟩

set_option maxRecDepth 100000 in
theorem lifted (os : Os) (started : os.Started) (H : Type) (enc : TypeId × Value → H) :
    ReturnsInHanded {} Try.checked os 5 .any (Rows.stageFullSpec.pre6 enc Try.prog Try.f5 Rows.stageFullRow.domain false) (Rows.stageFullSpec.post enc Try.prog Try.f5 false true false false) := by
  refine returnsInHanded_of_change (C := Try.checked) own started (by kernel_rfl) Try.func5
    (ChangeSpec.witness6 (enc := enc) (C := Try.checked) false ⟨#[], #[.int .u16 0], []⟩ 8 (by kernel_rfl) (by kernel_rfl) (by kernel_rfl) (by kernel_rfl)) ?_
  intro W base args ds gs before hval0 hW hcnd _
  have hval : ∀ (j : Nat) t v, Try.f5.params[j]? = some t → args[j]? = some v → Value.okWide Try.prog W .any base t v := hval0
  have hW' := hW
  obtain ⟨p, q, hA0, hV, rfl, hfz, hnd⟩ := hW
  have hA : DataW.TrodAll enc Try.prog W 0 (fun _ => true) true Try.f5.params.toList args.toList ds p := hA0
  rw [Try.params5] at hA hval
  obtain ⟨v0, vs0, d0, ds0, p0, q0, hargs, rfl, rfl, h0, r0⟩ := trodAll_cons hA
  obtain ⟨rfl, rfl, rfl⟩ := trodAll_nil r0
  obtain rfl : args = #[v0] := by cases args; simp_all
  obtain ⟨rfl, rfl⟩ := trodVars_none hV
  obtain ⟨a0, rfl, rfl, rfl, w0⟩ := open_int Try.underlying47 (hval 0 47 v0 rfl rfl) h0
  clear hA0 hval0
  refine (walk a0 w0 W).mono fun e W' ⟨he, bel⟩ => ?_
  subst he
  exact ⟨_, rfl, _, _, _, [], _, [], hW', trodAll_mk1 (shut_bool Try.underlying4 _), (trodAll_cons_mk (shut_int Try.underlying47 w0) trodAll_mk0), rfl, bel.frame _, fun h => by cases h⟩

theorem over : Rows.stageFullRow.holds Try.pinned (OpenSpec.ofChange Rows.stageFullSpec) :=
  OpenClaim.holds_of_wide 5 Try.f5 rfl rfl rfl rfl rfl rfl rfl ⟨rfl, rfl, rfl, rfl, rfl⟩ rfl rfl rfl rfl rfl (by kernel_rfl) Try.func5 (by kernel_rfl)
    (of_decide_eq_true (by kernel_rfl)) (by unfold Func.isWrapper; first | (rw [if_pos (by decide +kernel)]; kernel_rfl) | (rw [if_neg (by decide +kernel)]; exact ⟨rfl, rfl⟩))
    (fun os started H enc _ => lifted os started H enc)

end Go.Proofs.Ytpfnljebofgifab.stageFull
namespace Go.Proofs.Ytpfnljebofgifab
theorem stageFull_holds : Rows.StageFullSaid := stageFull.over
#print axioms stageFull_holds
end Go.Proofs.Ytpfnljebofgifab
