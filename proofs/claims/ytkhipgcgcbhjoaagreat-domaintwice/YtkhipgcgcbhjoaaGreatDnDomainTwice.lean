/-
  For every text s the law DomainTwice returns true. No condition.
-/
import Derived.Test.YtkhipgcgcbhjoaaGreatRows
import Derived.Test.YtkhipgcgcbhjoaaGreatDn57
import Derived.WalkKit
import Derived.ProofKit
import Derived.OpenShut
import Derived.ShutString
import Derived.ChangeOld
import Derived.Below
namespace Go.Proofs.YtkhipgcgcbhjoaaGreat.domainTwice
open Go.ChangeShapes Go.WideShapes Go.ChangeAt Go.RowKit
open Go.ChangeMaps (open_string shut_string)
set_option linter.unusedVariables false

theorem own : ownKnob Tryz.prog.godebug = none := by kernel_rfl

open Do in
set_option maxHeartbeats 8000000 in
set_option maxRecDepth 100000 in
theorem walk (a0 : ByteArray) (w0 : a0.size ≤ maxLen) (w : World) :
    Calls Tryz.prog 9 #[.string a0] w fun e w' => e = .returned (.bool true) ∧ Below w.heap.size w w' := by
  have HO := La.hr (Ok.start w)
  have HNa := La.hr (names_any w)
  by_cases hl : 80 < a0.size
  · go_enter Tryz.func9, Tryz.ntmps9
    go_wp2_with fail
    refine HNa.out.mono ?_
    rintro e W1 ⟨nm, b, m, f, c, g, j, k, p, d, u, s, rfl, hN, hB, hb⟩
    have HN := La.hr hN
    have HB := La.hr hB
    replace HO := La.hr (HO.out.step hb)
    clear hb hN hB HNa
    go_wp2_with fail
    refine (awake_any HN.out HB.out).mono ?_
    rintro e w' ⟨rfl, hb⟩
    replace HO := La.hr (HO.out.step hb)
    clear hb
    go_wp2_with fail
    go_ret
    exact ⟨rfl, HO.out.1⟩
  · have hr0 := La.hr (rdy_of (x := a0) (by omega))
    have hl' : ¬ (80 : Int) < (a0.size : Int) := by omega
    have HA := La.hr (fun (W : World) (nm b m f c g j k p d u s : Nat) (hN : Nm W nm b m f c g j k p d u s) (hB : Od.Bk W b) => toascii_any hN hB hr0.out)
    have HU := La.hr (fun (W : World) (nm b m f c g j k p d u s : Nat) (hN : Nm W nm b m f c g j k p d u s) (hB : Od.Bk W b) => touni_any hN hB hr0.out)
    by_cases he : taE a0 = 0
    · obtain ⟨⟨ra, ea, sa, ua⟩, ru, eu, su, uu⟩ := twice (by omega) he
      have HAA := La.hr (fun (W : World) (nm b m f c g j k p d u s : Nat) (hN : Nm W nm b m f c g j k p d u s) (hB : Od.Bk W b) => toascii_any hN hB ra)
      have HUA := La.hr (fun (W : World) (nm b m f c g j k p d u s : Nat) (hN : Nm W nm b m f c g j k p d u s) (hB : Od.Bk W b) => touni_any hN hB ra)
      have HAU := La.hr (fun (W : World) (nm b m f c g j k p d u s : Nat) (hN : Nm W nm b m f c g j k p d u s) (hB : Od.Bk W b) => toascii_any hN hB ru)
      have HUU := La.hr (fun (W : World) (nm b m f c g j k p d u s : Nat) (hN : Nm W nm b m f c g j k p d u s) (hB : Od.Bk W b) => touni_any hN hB ru)
      have HS1 := La.hr (fun (W : World) (nm b m f c g j k p d u s : Nat) (hN : Nm W nm b m f c g j k p d u s) (hB : Od.Bk W b) => same_yes hN hB hr0.out ru he eu su.symm)
      have HS2 := La.hr (fun (W : World) (nm b m f c g j k p d u s : Nat) (hN : Nm W nm b m f c g j k p d u s) (hB : Od.Bk W b) => same_yes hN hB ra hr0.out ea he sa)
      rw [he] at HA HU
      rw [ea, sa] at HAA
      rw [ea, ua] at HUA
      rw [eu, su] at HAU
      rw [eu, uu] at HUU
      clear ra ea sa ua ru eu su uu he hr0 hl
      generalize taS a0 = ta at *
      generalize tuS a0 = tu at *
      go_enter Tryz.func9, Tryz.ntmps9
      go_wp2_with fail
      refine HNa.out.mono ?_
      rintro e W1 ⟨nm, b, m, f, c, g, j, k, p, d, u, s, rfl, hN, hB, hb⟩
      have HN := La.hr hN
      have HB := La.hr hB
      replace HO := La.hr (HO.out.step hb)
      clear hb hN hB HNa
      go_wp2_with fail
      refine (HA.out _ _ _ _ _ _ _ _ _ _ _ _ _ HN.out HB.out).mono ?_
      rintro e W2 ⟨rfl, hb⟩
      replace HN := La.hr (HN.out.step hb)
      replace HB := La.hr (HB.out.step hb)
      replace HO := La.hr (HO.out.step hb)
      clear hb HA
      go_wp2_with fail
      refine (HU.out _ _ _ _ _ _ _ _ _ _ _ _ _ HN.out HB.out).mono ?_
      rintro e W3 ⟨rfl, hb⟩
      replace HN := La.hr (HN.out.step hb)
      replace HB := La.hr (HB.out.step hb)
      replace HO := La.hr (HO.out.step hb)
      clear hb HU
      go_wp2_with fail
      refine (HAA.out _ _ _ _ _ _ _ _ _ _ _ _ _ HN.out HB.out).mono ?_
      rintro e W4 ⟨rfl, hb⟩
      replace HN := La.hr (HN.out.step hb)
      replace HB := La.hr (HB.out.step hb)
      replace HO := La.hr (HO.out.step hb)
      clear hb HAA
      go_wp2_with fail
      refine (HAU.out _ _ _ _ _ _ _ _ _ _ _ _ _ HN.out HB.out).mono ?_
      rintro e W5 ⟨rfl, hb⟩
      replace HN := La.hr (HN.out.step hb)
      replace HB := La.hr (HB.out.step hb)
      replace HO := La.hr (HO.out.step hb)
      clear hb HAU
      go_wp2_with fail
      refine (HUA.out _ _ _ _ _ _ _ _ _ _ _ _ _ HN.out HB.out).mono ?_
      rintro e W6 ⟨rfl, hb⟩
      replace HN := La.hr (HN.out.step hb)
      replace HB := La.hr (HB.out.step hb)
      replace HO := La.hr (HO.out.step hb)
      clear hb HUA
      go_wp2_with fail
      refine (HUU.out _ _ _ _ _ _ _ _ _ _ _ _ _ HN.out HB.out).mono ?_
      rintro e W7 ⟨rfl, hb⟩
      replace HN := La.hr (HN.out.step hb)
      replace HB := La.hr (HB.out.step hb)
      replace HO := La.hr (HO.out.step hb)
      clear hb HUU
      go_wp2_with fail
      refine (HS1.out _ _ _ _ _ _ _ _ _ _ _ _ _ HN.out HB.out).mono ?_
      rintro e W8 ⟨rfl, hb⟩
      replace HN := La.hr (HN.out.step hb)
      replace HB := La.hr (HB.out.step hb)
      replace HO := La.hr (HO.out.step hb)
      clear hb HS1
      go_wp2_with fail
      refine (HS2.out _ _ _ _ _ _ _ _ _ _ _ _ _ HN.out HB.out).mono ?_
      rintro e W9 ⟨rfl, hb⟩
      replace HN := La.hr (HN.out.step hb)
      replace HB := La.hr (HB.out.step hb)
      replace HO := La.hr (HO.out.step hb)
      clear hb HS2
      go_wp2_with fail
      refine (awake_any HN.out HB.out).mono ?_
      rintro e w' ⟨rfl, hb⟩
      replace HO := La.hr (HO.out.step hb)
      clear hb
      go_wp2_with fail
      go_ret
      exact ⟨rfl, HO.out.1⟩
    · have h1 : taS a0 = ⟨#[]⟩ := ta_no he
      have h2 : tuS a0 = ⟨#[]⟩ := if_neg he
      have z0 : (taE a0 == 0) = false := beq_eq_false_iff_ne.2 he
      rw [h1] at HA
      rw [h2] at HU
      clear h1 h2 he hr0 hl
      generalize taE a0 = ee at *
      go_enter Tryz.func9, Tryz.ntmps9
      go_wp2_with fail
      refine HNa.out.mono ?_
      rintro e W1 ⟨nm, b, m, f, c, g, j, k, p, d, u, s, rfl, hN, hB, hb⟩
      have HN := La.hr hN
      have HB := La.hr hB
      replace HO := La.hr (HO.out.step hb)
      clear hb hN hB HNa
      go_wp2_with fail
      refine (HA.out _ _ _ _ _ _ _ _ _ _ _ _ _ HN.out HB.out).mono ?_
      rintro e W2 ⟨rfl, hb⟩
      replace HN := La.hr (HN.out.step hb)
      replace HB := La.hr (HB.out.step hb)
      replace HO := La.hr (HO.out.step hb)
      clear hb HA
      go_wp2_with fail
      refine (HU.out _ _ _ _ _ _ _ _ _ _ _ _ _ HN.out HB.out).mono ?_
      rintro e W3 ⟨rfl, hb⟩
      replace HN := La.hr (HN.out.step hb)
      replace HB := La.hr (HB.out.step hb)
      replace HO := La.hr (HO.out.step hb)
      clear hb HU
      go_wp2_with fail
      · exact absurd ‹ee = 0› (beq_eq_false_iff_ne.1 z0)
      refine (awake_any HN.out HB.out).mono ?_
      rintro e w' ⟨rfl, hb⟩
      replace HO := La.hr (HO.out.step hb)
      clear hb
      go_wp2_with fail
      go_ret
      exact ⟨rfl, HO.out.1⟩

set_option maxRecDepth 100000 in
theorem lifted (os : Os) (started : os.Started) (H : Type) (enc : TypeId × Value → H) :
    ReturnsInHanded {} Tryz.checked os 9 .any (Rows.domainTwiceSpec.pre6 enc Tryz.prog Tryz.f9 Rows.domainTwiceRow.domain false) (Rows.domainTwiceSpec.post enc Tryz.prog Tryz.f9 false true false false) := by
  refine returnsInHanded_of_change (C := Tryz.checked) own started (by kernel_rfl) Tryz.func9
    (ChangeSpec.witness6 (enc := enc) (C := Tryz.checked) false ⟨#[], #[.string ByteArray.empty], []⟩ 8 (by kernel_rfl) (by kernel_rfl) (by kernel_rfl) (by kernel_rfl)) ?_
  intro W base args ds gs before hval0 hW hcnd _
  have hval : ∀ (j : Nat) t v, Tryz.f9.params[j]? = some t → args[j]? = some v → Value.okWide Tryz.prog W .any base t v := hval0
  have hW' := hW
  obtain ⟨p, q, hA0, hV, rfl, hfz, hnd⟩ := hW
  have hA : DataW.TrodAll enc Tryz.prog W 0 (fun _ => true) true Tryz.f9.params.toList args.toList ds p := hA0
  rw [Tryz.params9] at hA hval
  obtain ⟨v0, vs0, d0, ds0, p0, q0, hargs, rfl, rfl, h0, r0⟩ := trodAll_cons hA
  obtain ⟨rfl, rfl, rfl⟩ := trodAll_nil r0
  obtain rfl : args = #[v0] := by cases args; simp_all
  obtain ⟨rfl, rfl⟩ := trodVars_none hV
  obtain ⟨a0, rfl, rfl, rfl, w0⟩ := open_string Tryz.underlying9 (hval 0 9 v0 rfl rfl) h0
  clear hA0 hval0
  refine (walk a0 w0 W).mono fun e W' ⟨he, bel⟩ => ?_
  subst he
  exact ⟨_, rfl, _, _, _, [], _, [], hW', trodAll_mk1 (shut_bool Tryz.underlying4 _), (trodAll_cons_mk (shut_string Tryz.underlying9 w0) trodAll_mk0), rfl, bel.frame _, fun h => by cases h⟩

theorem over : Rows.domainTwiceRow.holds Tryz.pinned (OpenSpec.ofChange Rows.domainTwiceSpec) :=
  OpenClaim.holds_of_wide 9 Tryz.f9 rfl rfl rfl rfl rfl rfl rfl ⟨rfl, rfl, rfl, rfl, rfl⟩ rfl rfl rfl rfl rfl (by kernel_rfl) Tryz.func9 (by kernel_rfl)
    (of_decide_eq_true (by kernel_rfl)) (by unfold Func.isWrapper; first | (rw [if_pos (by decide +kernel)]; kernel_rfl) | (rw [if_neg (by decide +kernel)]; exact ⟨rfl, rfl⟩))
    (fun os started H enc _ => lifted os started H enc)

end Go.Proofs.YtkhipgcgcbhjoaaGreat.domainTwice
namespace Go.Proofs.YtkhipgcgcbhjoaaGreat
theorem domainTwice_holds : Rows.DomainTwiceSaid := domainTwice.over
#print axioms domainTwice_holds
end Go.Proofs.YtkhipgcgcbhjoaaGreat
