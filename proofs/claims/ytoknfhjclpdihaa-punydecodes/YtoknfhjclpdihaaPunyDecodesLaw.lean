/-
  For every text s the law PunyDecodes returns true. No condition.
-/
import Derived.Test.YtoknfhjclpdihaaRows
import Derived.Test.YtoknfhjclpdihaaPu37
import Derived.WalkKit
import Derived.ProofKit
import Derived.OpenShut
import Derived.ShutString
import Derived.ChangeOld
import Derived.Below
namespace Go.Proofs.Ytoknfhjclpdihaa.punyDecodes
open Go.ChangeShapes Go.WideShapes Go.ChangeAt Go.RowKit
open Go.ChangeMaps (open_string shut_string)
set_option linter.unusedVariables false

theorem own : ownKnob Try.prog.godebug = none := by kernel_rfl

open Pu in
set_option maxHeartbeats 8000000 in
set_option maxRecDepth 100000 in
theorem walk (a0 : ByteArray) (w0 : a0.size ≤ maxLen) (w : World) :
    Calls Try.prog 4 #[.string a0] w fun e w' => e = .returned (.bool true) ∧ Below w.heap.size w w' := by
  have HO := hid (Ok.start w)
  have HAw := hid awake11_any
  by_cases hl : 100 < a0.size
  · go_enter Try.func4, Try.ntmps4
    go_wp2_with fail
    refine (HAw.out _).mono ?_
    rintro e w' ⟨rfl, hb⟩
    replace HO := hid (HO.out.step hb)
    clear hb
    go_wp2_with fail
    go_ret
    exact ⟨rfl, HO.out.1⟩
  · have HD := hid (dec_uni a0 (by omega) w)
    have HR := hid (fun i x l hy ht W => rdec_uni a0 (by omega) i x l hy ht W)
    have hl' : (a0.size : Int) ≤ 100 := by omega
    go_enter Try.func4, Try.ntmps4
    go_wp2_with fail
    refine HD.out.mono ?_
    rintro e W1 ⟨i, x, l, v, rfl, hy, ht, h1, hn, hz, hb⟩
    have HY := hid hy
    have HT := hid ht
    have SA := hid h1
    have HN := hid hn
    have HZ := hid hz
    replace HO := hid (HO.out.step hb)
    clear hy ht h1 hn hz hb HD
    go_wp2_with fail
    refine (HR.out i x l HY.out HT.out _).mono ?_
    rintro e W2 ⟨v2, rfl, h1, hb⟩
    have SB := hid h1
    replace SA := hid (SA.out.step hb)
    replace HO := hid (HO.out.step hb)
    clear h1 hb HR HY HT
    go_wp2_with fail
    refine (Od.ints11_any _ _ _ SA.out (by have := HN.out; omega) HZ.out).mono ?_
    rintro e W3 ⟨v3, rfl, h1, hb⟩
    have SC := hid h1
    replace SB := hid (SB.out.step hb)
    replace HO := hid (HO.out.step hb)
    clear h1 hb SA
    go_wp2_with fail
    refine (Od.same_any _ _ _ _ _ SC.out.sl SB.out (by have := HN.out; omega)).mono ?_
    rw [decide_eq_true (rfl : l = l)]
    rintro e W4 ⟨rfl, hb⟩
    replace HO := hid (HO.out.step hb)
    clear hb SB SC
    go_wp2_with fail
    refine (HAw.out _).mono ?_
    rintro e w' ⟨rfl, hb⟩
    replace HO := hid (HO.out.step hb)
    clear hb
    go_wp2_with fail
    go_ret
    exact ⟨rfl, HO.out.1⟩

set_option maxRecDepth 100000 in
theorem lifted (os : Os) (started : os.Started) (H : Type) (enc : TypeId × Value → H) :
    ReturnsInHanded {} Try.checked os 4 .any (Rows.punyDecodesSpec.pre6 enc Try.prog Try.f4 Rows.punyDecodesRow.domain false) (Rows.punyDecodesSpec.post enc Try.prog Try.f4 false true false false) := by
  refine returnsInHanded_of_change (C := Try.checked) own started (by kernel_rfl) Try.func4
    (ChangeSpec.witness6 (enc := enc) (C := Try.checked) false ⟨#[], #[.string ByteArray.empty], []⟩ 8 (by kernel_rfl) (by kernel_rfl) (by kernel_rfl) (by kernel_rfl)) ?_
  intro W base args ds gs before hval0 hW hcnd _
  have hval : ∀ (j : Nat) t v, Try.f4.params[j]? = some t → args[j]? = some v → Value.okWide Try.prog W .any base t v := hval0
  have hW' := hW
  obtain ⟨p, q, hA0, hV, rfl, hfz, hnd⟩ := hW
  have hA : DataW.TrodAll enc Try.prog W 0 (fun _ => true) true Try.f4.params.toList args.toList ds p := hA0
  rw [Try.params4] at hA hval
  obtain ⟨v0, vs0, d0, ds0, p0, q0, hargs, rfl, rfl, h0, r0⟩ := trodAll_cons hA
  obtain ⟨rfl, rfl, rfl⟩ := trodAll_nil r0
  obtain rfl : args = #[v0] := by cases args; simp_all
  obtain ⟨rfl, rfl⟩ := trodVars_none hV
  obtain ⟨a0, rfl, rfl, rfl, w0⟩ := open_string Try.underlying9 (hval 0 9 v0 rfl rfl) h0
  clear hA0 hval0
  refine (walk a0 w0 W).mono fun e W' ⟨he, bel⟩ => ?_
  subst he
  exact ⟨_, rfl, _, _, _, [], _, [], hW', trodAll_mk1 (shut_bool Try.underlying4 _), (trodAll_cons_mk (shut_string Try.underlying9 w0) trodAll_mk0), rfl, bel.frame _, fun h => by cases h⟩

theorem over : Rows.punyDecodesRow.holds Try.pinned (OpenSpec.ofChange Rows.punyDecodesSpec) :=
  OpenClaim.holds_of_wide 4 Try.f4 rfl rfl rfl rfl rfl rfl rfl ⟨rfl, rfl, rfl, rfl, rfl⟩ rfl rfl rfl rfl rfl (by kernel_rfl) Try.func4 (by kernel_rfl)
    (of_decide_eq_true (by kernel_rfl)) (by unfold Func.isWrapper; first | (rw [if_pos (by decide +kernel)]; kernel_rfl) | (rw [if_neg (by decide +kernel)]; exact ⟨rfl, rfl⟩))
    (fun os started H enc _ => lifted os started H enc)

end Go.Proofs.Ytoknfhjclpdihaa.punyDecodes
namespace Go.Proofs.Ytoknfhjclpdihaa
theorem punyDecodes_holds : Rows.PunyDecodesSaid := punyDecodes.over
#print axioms punyDecodes_holds
end Go.Proofs.Ytoknfhjclpdihaa
