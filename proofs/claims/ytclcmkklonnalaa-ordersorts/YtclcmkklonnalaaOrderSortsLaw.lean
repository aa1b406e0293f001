/-
  For every slice l of runes the law OrderSorts returns true, and l reads behind the call as it read before. No condition.
-/
import Derived.Test.YtclcmkklonnalaaRows
import Derived.Test.YtclcmkklonnalaaOrd14x25
import Derived.WalkKit
import Derived.ProofKit
import Derived.OpenShut
import Derived.ShutString
import Derived.ChangeOld
import Derived.Below
namespace Go.Proofs.Ytclcmkklonnalaa.orderSorts
open Go.ChangeShapes Go.WideShapes Go.ChangeAt Go.RowKit
open Go.ChangeMaps (open_string shut_string)
set_option linter.unusedVariables false

theorem own : ownKnob Try.prog.godebug = none := by kernel_rfl
theorem laidOut : laidOutB Try.prog = true := by kernel_rfl

/-- WHAT THE WALK IS TOLD OF A SLICE OF INTEGERS THAT CAME IN: it is nil; or it leads to a row of 'cap' cells, the numbers 'zs' (the first 'len' are its elements, the rest its spare room), each fitting its kind. -/
def IsRow (k : IntKind) (w : World) (a : Option Addr) (len cap : Nat) (zs : List Int) : Prop :=
  (a = none ∧ len = 0 ∧ cap = 0 ∧ zs = []) ∨
  ∃ x, a = some x ∧ len ≤ cap ∧ cap ≤ maxLen ∧ zs.length = cap ∧ (∀ i, i < zs.length → w.cell? (x.add i) = some (.int k (zs.getD i 0))) ∧ ∀ n ∈ zs, (Lit.int k n).wf = true

open Od in
set_option maxHeartbeats 4000000 in
set_option maxRecDepth 100000 in
theorem walk (a0 : Option Addr) (len0 cap0 : Nat) (z0 : List Int) (w : World) (w0 : IsRow .i32 w a0 len0 cap0 z0) :
    Calls Try.prog 3 #[.slice a0 len0 cap0] w fun e w' => e = .returned (.bool true) ∧ Below w.heap.size w w' := by
  obtain ⟨hlen, hS, hZ⟩ := row_sl w0
  have HZ := hid hZ
  have HS : Hid (Sl .i32 w (.slice a0 len0 cap0) (z0.take len0)) := ⟨a0, cap0, by rw [hlen], hS⟩
  have HN := hid (newbook_any w)
  have hLen : Hid ((z0.take len0).length = len0) := hlen
  generalize z0.take len0 = zs at *
  clear w0 hS hZ hlen
  have HO := hid (Ok.start w)
  by_cases hl : 24 < len0
  · go_enter Try.func3, Try.ntmps3
    go_wp2_with fail
    refine HN.out.mono ?_
    rintro e w' ⟨b, rfl, hb, hB⟩
    have HB := hid hB
    replace HO := hid (HO.out.step hb)
    clear hB hb
    go_wp2_with fail
    refine (awake_any HB.out).mono ?_
    rintro e w' ⟨rfl, hb⟩
    replace HO := hid (HO.out.step hb)
    clear hb
    go_wp2_with fail
    go_ret
    exact ⟨rfl, HO.out.1⟩
  · go_enter Try.func3, Try.ntmps3
    have hn : Hid (zs.length ≤ 1000000) := by show _ ≤ _; have := hLen.out; omega
    have hn2 : Hid ((srt clsP zs).length ≤ 1000000) := by show _ ≤ _; rw [(sw_srt clsP zs).len]; exact hn.out
    have HZ2 := hid (bd_srt HZ.out)
    go_wp2_with fail
    refine HN.out.mono ?_
    rintro e w' ⟨b, rfl, hb, hB⟩
    have HB := hid hB
    replace HO := hid (HO.out.step hb)
    replace HS := hid (HS.out.step hb)
    clear hB hb HN
    go_wp2_with fail
    refine (sort_any HB.out HS.out hn.out).mono ?_
    rintro e w' ⟨vg, rfl, hs, hb⟩
    replace HO := hid (HO.out.step hb); replace HS := hid (HS.out.step hb); replace HB := hid (HB.out.step hb); have HG := hid hs; clear hs; clear hb
    go_wp2_with fail
    refine (ints_any _ _ _ HS.out hn.out HZ.out).mono ?_
    rintro e w' ⟨vi, rfl, hs, hb⟩
    replace HO := hid (HO.out.step hb); replace HS := hid (HS.out.step hb); replace HB := hid (HB.out.step hb); replace HG := hid (HG.out.step hb); have HI := hid hs; clear hs; clear hb
    go_wp2_with fail
    refine (rsort_any HI.out hn.out).mono ?_
    rintro e w' ⟨vw, rfl, hs, hb⟩
    replace HO := hid (HO.out.step hb); replace HS := hid (HS.out.step hb); replace HB := hid (HB.out.step hb); replace HG := hid (HG.out.step hb); have HW := hid hs; clear hs; clear hb
    go_wp2_with fail
    refine (ints_any _ _ _ HG.out hn2.out HZ2.out).mono ?_
    rintro e w' ⟨v2, rfl, hs, hb⟩
    replace HO := hid (HO.out.step hb); replace HS := hid (HS.out.step hb); replace HB := hid (HB.out.step hb); replace HG := hid (HG.out.step hb); replace HW := hid (HW.out.step hb); have HI2 := hid hs; clear hs; clear hb
    go_wp2_with fail
    refine (same_any _ _ _ _ _ HI2.out.sl HW.out.sl (Nat.le_trans hn2.out (by decide))).mono ?_
    rintro e w' ⟨rfl, hb⟩
    replace HO := hid (HO.out.step hb); replace HS := hid (HS.out.step hb); replace HB := hid (HB.out.step hb); replace HG := hid (HG.out.step hb); replace HW := hid (HW.out.step hb); rw [decide_eq_true (show srt clsP zs = srt clsP zs from rfl)]; clear hb
    go_wp2_with fail
    refine (sorted_any HB.out HG.out hn2.out).mono ?_
    rintro e w' ⟨rfl, hb⟩
    replace HO := hid (HO.out.step hb); replace HS := hid (HS.out.step hb); replace HB := hid (HB.out.step hb); replace HG := hid (HG.out.step hb); replace HW := hid (HW.out.step hb); rw [decide_eq_true (srt_twice clsP zs)]; clear hb
    go_wp2_with fail
    refine (sorted_any HB.out HS.out hn.out).mono ?_
    rintro e w' ⟨rfl, hb⟩
    replace HO := hid (HO.out.step hb); replace HS := hid (HS.out.step hb); replace HB := hid (HB.out.step hb); replace HG := hid (HG.out.step hb); replace HW := hid (HW.out.step hb); clear hb
    go_wp2_with fail
    refine (ints_any _ _ _ HS.out hn.out HZ.out).mono ?_
    rintro e w' ⟨v3, rfl, hs, hb⟩
    replace HO := hid (HO.out.step hb); replace HS := hid (HS.out.step hb); replace HB := hid (HB.out.step hb); replace HG := hid (HG.out.step hb); replace HW := hid (HW.out.step hb); have HI3 := hid hs; clear hs; clear hb
    go_wp2_with fail
    refine (same_any _ _ _ _ _ HI3.out.sl HW.out.sl (Nat.le_trans hn.out (by decide))).mono ?_
    rintro e w' ⟨rfl, hb⟩
    replace HO := hid (HO.out.step hb); replace HS := hid (HS.out.step hb); replace HB := hid (HB.out.step hb); replace HG := hid (HG.out.step hb); replace HW := hid (HW.out.step hb); rw [show decide (zs = srt clsP zs) = decide (srt clsP zs = zs) from by rw [decide_eq_decide]; exact ⟨Eq.symm, Eq.symm⟩]; generalize decide (srt clsP zs = zs) = q at *; clear hb
    go_wp2_with fail
    refine (sort_any HB.out HG.out hn2.out).mono ?_
    rintro e w' ⟨v4, rfl, hs, hb⟩
    replace HO := hid (HO.out.step hb); replace HS := hid (HS.out.step hb); replace HB := hid (HB.out.step hb); replace HG := hid (HG.out.step hb); replace HW := hid (HW.out.step hb); rw [srt_twice clsP zs] at hs; have HG4 := hid hs; clear hs; clear hb
    go_wp2_with fail
    refine (ints_any _ _ _ HG4.out hn2.out HZ2.out).mono ?_
    rintro e w' ⟨v5, rfl, hs, hb⟩
    replace HO := hid (HO.out.step hb); replace HS := hid (HS.out.step hb); replace HB := hid (HB.out.step hb); replace HG := hid (HG.out.step hb); replace HW := hid (HW.out.step hb); have HI5 := hid hs; clear hs; clear hb
    go_wp2_with fail
    refine (same_any _ _ _ _ _ HI5.out.sl HW.out.sl (Nat.le_trans hn2.out (by decide))).mono ?_
    rintro e w' ⟨rfl, hb⟩
    replace HO := hid (HO.out.step hb); replace HS := hid (HS.out.step hb); replace HB := hid (HB.out.step hb); replace HG := hid (HG.out.step hb); replace HW := hid (HW.out.step hb); rw [decide_eq_true (show srt clsP zs = srt clsP zs from rfl)]; clear hb
    go_wp2_with fail
    refine (awake_any HB.out).mono ?_
    rintro e w' ⟨rfl, hb⟩
    replace HO := hid (HO.out.step hb); replace HS := hid (HS.out.step hb); replace HB := hid (HB.out.step hb); replace HG := hid (HG.out.step hb); replace HW := hid (HW.out.step hb); clear hb
    go_wp2_with fail
    go_ret
    exact ⟨rfl, HO.out.1⟩

set_option maxRecDepth 100000 in
theorem lifted (os : Os) (started : os.Started) (H : Type) (enc : TypeId × Value → H) :
    ReturnsInHanded {} Try.checked os 3 .any (Rows.orderSortsSpec.pre6 enc Try.prog Try.f3 Rows.orderSortsRow.domain false) (Rows.orderSortsSpec.post enc Try.prog Try.f3 false true false false) := by
  refine returnsInHanded_of_change (C := Try.checked) own started (by kernel_rfl) Try.func3
    (ChangeSpec.witness6 (enc := enc) (C := Try.checked) false ⟨#[], #[.slice none 0 0], []⟩ 8 (by kernel_rfl) (by kernel_rfl) (by kernel_rfl) (by kernel_rfl)) ?_
  intro W base args ds gs before hval0 hW hcnd _
  have hval : ∀ (j : Nat) t v, Try.f3.params[j]? = some t → args[j]? = some v → Value.okWide Try.prog W .any base t v := hval0
  have hW' := hW
  obtain ⟨p, q, hA0, hV, rfl, hfz, hnd⟩ := hW
  have hA : DataW.TrodAll enc Try.prog W 0 (fun _ => true) true Try.f3.params.toList args.toList ds p := hA0
  rw [Try.params3] at hA hval
  obtain ⟨v0, vs0, d0, ds0, p0, q0, hargs, rfl, rfl, h0, r0⟩ := trodAll_cons hA
  obtain ⟨rfl, rfl, rfl⟩ := trodAll_nil r0
  obtain rfl : args = #[v0] := by cases args; simp_all
  obtain ⟨rfl, rfl⟩ := trodVars_none hV
  obtain ⟨a0, len0, cap0, rfl⟩ := okWide_slice Try.underlying22 (hval 0 22 v0 rfl rfl)
  have k0 := h0
  have lt0 : ∀ x ∈ p0, x.block < W.heap.size := by obtain ⟨m, hm⟩ := k0; exact DataW.trod_lt m _ _ _ hm
  obtain ⟨z0, w0⟩ : ∃ zs, IsRow .i32 W a0 len0 cap0 zs := by
    obtain ⟨fuel, hf⟩ := h0
    rcases open_ints Try.underlying22 Try.underlying21 (by kernel_rfl) hf with ⟨hcs, _⟩ | ⟨x, l, c, zs, hcs, _, hl, hm, hz, _, hcell, hwz⟩
    · simp [Value.cells] at hcs
      obtain ⟨rfl, rfl, rfl⟩ := hcs
      exact ⟨[], .inl ⟨rfl, rfl, rfl, rfl⟩⟩
    · simp [Value.cells] at hcs
      obtain ⟨rfl, rfl, rfl⟩ := hcs
      exact ⟨zs, .inr ⟨_, rfl, hl, hm, by simpa using hz, hcell, hwz⟩⟩
  clear hA0 hval0
  refine (walk a0 len0 cap0 z0 W w0).mono fun e W' ⟨he, bel⟩ => ?_
  subst he
  exact ⟨_, rfl, _, _, _, [], _, [], hW', trodAll_mk1 (shut_bool Try.underlying4 _), (trodAll_cons_mk (Below.trod laidOut (by kernel_rfl) (of_decide_eq_true (by kernel_rfl)) k0 bel lt0) trodAll_mk0), rfl, bel.frame _, fun h => by cases h⟩

theorem over : Rows.orderSortsRow.holds Try.pinned (OpenSpec.ofChange Rows.orderSortsSpec) :=
  OpenClaim.holds_of_wide 3 Try.f3 rfl rfl rfl rfl rfl rfl rfl ⟨rfl, rfl, rfl, rfl, rfl⟩ rfl rfl rfl rfl rfl (by kernel_rfl) Try.func3 (by kernel_rfl)
    (of_decide_eq_true (by kernel_rfl)) (by unfold Func.isWrapper; first | (rw [if_pos (by decide +kernel)]; kernel_rfl) | (rw [if_neg (by decide +kernel)]; exact ⟨rfl, rfl⟩))
    (fun os started H enc _ => lifted os started H enc)

end Go.Proofs.Ytclcmkklonnalaa.orderSorts
namespace Go.Proofs.Ytclcmkklonnalaa
theorem orderSorts_holds : Rows.OrderSortsSaid := orderSorts.over
#print axioms orderSorts_holds
end Go.Proofs.Ytclcmkklonnalaa
