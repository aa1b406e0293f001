/-
  For every slice of slices of runes the law BidiLabels returns true, and it reads behind the call as it read before. No condition.
-/
import Derived.Test.YtemdmalcoemhnaaRows
import Derived.Test.YtemdmalcoemhnaaBid1x9
import Derived.WalkKit
import Derived.ProofKit
import Derived.OpenShut
import Derived.ShutString
import Derived.ChangeOld
import Derived.Below
namespace Go.Proofs.Ytemdmalcoemhnaa.bidiLabels
open Go.ChangeShapes Go.WideShapes Go.ChangeAt Go.RowKit
open Go.ChangeMaps (open_string shut_string)
set_option linter.unusedVariables false

theorem own : ownKnob Try.prog.godebug = none := by kernel_rfl
theorem laidOut : laidOutB Try.prog = true := by kernel_rfl

open Od Bi in
set_option maxHeartbeats 8000000 in
set_option maxRecDepth 100000 in
theorem walk (v0 : Value) (x0 : List (Value × List Int)) (w : World) (w0 : Bi.LabV w v0 x0) :
    Calls Try.prog 4 #[v0] w fun e w' => e = .returned (.bool true) ∧ Below w.heap.size w w' := by
  obtain ⟨⟨ao, cap, rfl, hS⟩, hM⟩ := w0
  have HS0 := Bi.hr hS
  generalize x0 = xs at *
  clear hS
  generalize hlen : xs.length = n at *
  have HLn := Bi.hr hlen
  unfold maxLen at hM
  clear hlen
  have HW0 := Bi.hr (Ok.start w)
  go_enter Try.func4, Try.ntmps4
  go_wp2_with fail
  refine (newbook_any _).mono ?_
  rintro e W1 ⟨b, rfl, hb, hB⟩
  have HB := Bi.hr (fun (W : World) (h : Below W1.heap.size W1 W) => hB.step h)
  have HW := Bi.hr (HW0.out.step hb)
  have HS := Bi.hr (fun (W : World) (h : Below W1.heap.size W1 W) => HS0.out.step (HW.out.step h).1)
  have HO := Bi.hr (Ok.start W1)
  clear hb hB
  by_cases hl : 8 < n
  · have z8 : (8 : Int) < (n : Int) := by omega
    go_wp2_with fail
    refine (Bi.awake_any (HB.out _ HO.out.1)).mono ?_
    rintro e w' ⟨rfl, hb⟩
    replace HO := Bi.hr (HO.out.step hb)
    clear hb
    go_wp2_with fail
    try rw [Exit.noGoto_ret]
    go_ret
    exact ⟨rfl, (HW.out.step HO.out.1).1⟩
  · have z8 : ¬ (8 : Int) < (n : Int) := by omega
    go_wp2_with fail
    go_loopg [4, 5, 20] n (fun gg vs vw vi wr => ∃ k : Nat, vi = .int .i64 k ∧ k ≤ n ∧ gg = n - k ∧ ∃ (s : Bool) (z : Int), vs = .bool s ∧ vw = .int .i64 z ∧ Hid (anyL rtP (xs.take k) = s ∧ Fst (bro xs) k z ∧ (∀ y ∈ xs.take k, y.2.length ≤ 30) ∧ Ok W1.heap.size W1 wr))
    case atStart => exact ⟨0, rfl, Nat.zero_le _, rfl, false, -1, rfl, rfl, rfl, .inl ⟨rfl, fun j hj => by omega⟩, fun y hy => by simp at hy, HO.out⟩
    case round =>
      obtain ⟨k, rfl, hk, hg, s, z, rfl, rfl, H⟩ := hrel
      have HG := Bi.hr hg
      clear hg
      replace HO := Bi.hr H.out.2.2.2
      have HFs := Bi.hr H.out.2.1
      by_cases hlt : k < n
      · have hlx : k < xs.length := by rw [HLn.out]; exact hlt
        have hmk := List.getElem_mem hlx
        obtain ⟨bb, off, e0, hbb, c1⟩ := (HS.out _ (Below.refl _ _)).at_ k hlx
        have d1 := (HO.out.1.cell (p := ⟨bb, off + k, none⟩) hbb).trans c1
        have HSk := Bi.hr (fun (W : World) (h : Below W1.heap.size W1 W) => (HS.out W h).sl _ hmk)
        have HRk := Bi.hr ((HS.out _ (Below.refl _ _)).rn _ hmk)
        have HAn : Hid (anyL rtP (xs.take (k + 1)) = (s || rtP xs[k].2)) := by show _ = _; rw [any_snoc rtP xs k hlx, H.out.1]
        have HBr := Bi.hr (bro_at xs k hlx)
        have HLp : Hid (xs[k].2.length ≤ 30 → ∀ y ∈ xs.take (k + 1), y.2.length ≤ 30) := fun h y hy => by
          rw [List.take_succ_eq_append_getElem hlx, List.mem_append, List.mem_singleton] at hy
          rcases hy with hy | rfl
          · exact H.out.2.2.1 y hy
          · exact h
        subst e0
        obtain ⟨ak, ck, ek, hk2⟩ := HSk.out _ (Below.refl _ _)
        rw [ek] at d1
        have HSk2 := Bi.hr (fun (W : World) (h : Below W1.heap.size W1 W) => (by rw [← ek]; exact HSk.out W h : Sl .i32 W (.slice ak xs[k].2.length ck) xs[k].2))
        clear c1 H hk2 ek HSk hmk
        have HSk := HSk2
        clear HSk2
        generalize xs[k].2 = X at *
        have z1 : (k : Int) < (n : Int) := by omega
        by_cases h30 : 30 < X.length
        · have z30 : (30 : Int) < (X.length : Int) := by omega
          clear HSk HRk HAn HBr HLp
          go_wp2_with fail
          refine (Bi.awake_any (HB.out _ HO.out.1)).mono ?_
          rintro e w' ⟨rfl, hb⟩
          replace HO := Bi.hr (HO.out.step hb)
          clear hb
          go_wp2_with fail
          try rw [Exit.noGoto_ret]
          go_ret
          exact ⟨rfl, (HW.out.step HO.out.1).1⟩
        · have z30 : ¬ (30 : Int) < (X.length : Int) := by omega
          have HLk := Bi.hr (HLp.out (by omega))
          have hnk : Hid (X.length ≤ 1000000) := by show _ ≤ _; omega
          clear HLp
          cases s
          · go_wp2_with fail
            refine (ints14_any _ _ _ (HSk.out _ HO.out.1) hnk.out HRk.out).mono ?_
            rintro e W3 ⟨v3, rfl, h1, hb⟩
            have S3 := Bi.hr h1.sl
            replace HO := Bi.hr (HO.out.step hb)
            clear h1 hb
            go_wp2_with fail
            refine (right14_any S3.out hnk.out).mono ?_
            rintro e W4 ⟨rfl, hb⟩
            replace HO := Bi.hr (HO.out.step hb)
            clear S3 hb
            replace HAn : Hid (anyL rtP (xs.take (k + 1)) = rtP X) := HAn.out
            generalize rtP X = r at *
            by_cases hz : z < 0
            · go_wp2_with fail
              refine (ints14_any _ _ _ (HSk.out _ HO.out.1) hnk.out HRk.out).mono ?_
              rintro e W3 ⟨v3, rfl, h1, hb⟩
              have S3 := Bi.hr h1.sl
              replace HO := Bi.hr (HO.out.step hb)
              clear h1 hb
              go_wp2_with fail
              refine (rbroken_any S3.out hnk.out).mono ?_
              rintro e W5 ⟨rfl, hb⟩
              replace HO := Bi.hr (HO.out.step hb)
              clear S3 hb
              by_cases hbr : brP X = 0
              · have q0 : (brP X == 0) = true := beq_iff_eq.2 hbr
                have HF : Hid (Fst (bro xs) (k + 1) z) := HFs.out.none_ hz (by rw [HBr.out, q0]; rfl)
                clear hbr
                go_wp2_with fail
                go_roundg (n - (k + 1))
                case measure => rw [HG.out]; omega
                case rel => exact ⟨k + 1, by go_num, by omega, rfl, r, z, rfl, rfl, by rw [HAn.out], HF.out, HLk.out, HO.out⟩
              · have q0 : (brP X == 0) = false := beq_eq_false_iff_ne.2 hbr
                have HF : Hid (Fst (bro xs) (k + 1) (k : Int)) := HFs.out.hit hz (by rw [HBr.out, q0]; rfl)
                clear hbr
                go_wp2_with fail
                go_roundg (n - (k + 1))
                case measure => rw [HG.out]; omega
                case rel => exact ⟨k + 1, by go_num, by omega, rfl, r, (k : Int), rfl, rfl, by rw [HAn.out], HF.out, HLk.out, HO.out⟩
            · have HF : Hid (Fst (bro xs) (k + 1) z) := HFs.out.past hz
              go_wp2_with fail
              go_roundg (n - (k + 1))
              case measure => rw [HG.out]; omega
              case rel => exact ⟨k + 1, by go_num, by omega, rfl, r, z, rfl, rfl, by rw [HAn.out], HF.out, HLk.out, HO.out⟩
          · by_cases hz : z < 0
            · go_wp2_with fail
              refine (ints14_any _ _ _ (HSk.out _ HO.out.1) hnk.out HRk.out).mono ?_
              rintro e W3 ⟨v3, rfl, h1, hb⟩
              have S3 := Bi.hr h1.sl
              replace HO := Bi.hr (HO.out.step hb)
              clear h1 hb
              go_wp2_with fail
              refine (rbroken_any S3.out hnk.out).mono ?_
              rintro e W5 ⟨rfl, hb⟩
              replace HO := Bi.hr (HO.out.step hb)
              clear S3 hb
              by_cases hbr : brP X = 0
              · have q0 : (brP X == 0) = true := beq_iff_eq.2 hbr
                have HF : Hid (Fst (bro xs) (k + 1) z) := HFs.out.none_ hz (by rw [HBr.out, q0]; rfl)
                clear hbr
                go_wp2_with fail
                go_roundg (n - (k + 1))
                case measure => rw [HG.out]; omega
                case rel => exact ⟨k + 1, by go_num, by omega, rfl, true, z, rfl, rfl, by rw [HAn.out]; rfl, HF.out, HLk.out, HO.out⟩
              · have q0 : (brP X == 0) = false := beq_eq_false_iff_ne.2 hbr
                have HF : Hid (Fst (bro xs) (k + 1) (k : Int)) := HFs.out.hit hz (by rw [HBr.out, q0]; rfl)
                clear hbr
                go_wp2_with fail
                go_roundg (n - (k + 1))
                case measure => rw [HG.out]; omega
                case rel => exact ⟨k + 1, by go_num, by omega, rfl, true, (k : Int), rfl, rfl, by rw [HAn.out]; rfl, HF.out, HLk.out, HO.out⟩
            · have HF : Hid (Fst (bro xs) (k + 1) z) := HFs.out.past hz
              go_wp2_with fail
              go_roundg (n - (k + 1))
              case measure => rw [HG.out]; omega
              case rel => exact ⟨k + 1, by go_num, by omega, rfl, true, z, rfl, rfl, by rw [HAn.out]; rfl, HF.out, HLk.out, HO.out⟩
      · have e : k = n := by omega
        have HAn : Hid (anyL rtP xs = s) := by
          have := H.out.1
          rwa [e, ← HLn.out, List.take_length] at this
        rw [e, ← HLn.out] at HFs
        have Hs30 : Hid (∀ y ∈ xs, y.2.length ≤ 1000000) := fun y hy => by
          have := H.out.2.2.1 y (by rw [e, ← HLn.out, List.take_length]; exact hy)
          omega
        have hn6 : Hid (xs.length ≤ 1000000) := by show _ ≤ _; have := HLn.out; omega
        have z1 : ¬ (k : Int) < (n : Int) := by omega
        subst e
        clear H HG
        have hLn := HLn.out
        subst hLn
        cases s
        · go_wp2_with fail
          refine (first_any (HB.out _ HO.out.1) rfl (HS.out _ HO.out.1) Hs30.out hn6.out).mono ?_
          rintro e W6 ⟨⟨z', rfl, hz'⟩, hb⟩
          have ez : z' = z := hz'.one HFs.out
          subst ez
          replace HO := Bi.hr (HO.out.step hb)
          clear hb hz'
          have hfv : fiV (anyL rtP xs) z' = .tuple #[.int .i64 0, .bool false] := by unfold fiV; rw [if_neg (fun h => by rw [HAn.out] at h; cases h.1)]
          rw [hfv]
          clear hfv HFs
          have hm : (-1 : Int) < 0 := by decide
          generalize (-1 : Int) = m at *
          have hz4 : ¬ 0 ≤ m := by omega
          have hmx : max m 0 = 0 := Int.max_eq_right (by omega)
          have hd0 : decide (0 ≤ m) = false := decide_eq_false hz4
          go_wp2_with fail
          refine (both_any (HB.out _ HO.out.1) rfl (HS.out _ HO.out.1) Hs30.out hn6.out).mono ?_
          rintro e W7 ⟨rfl, hb⟩
          replace HO := Bi.hr (HO.out.step hb)
          clear hb
          rw [HAn.out]
          go_wp2_with fail
          refine (Bi.awake_any (HB.out _ HO.out.1)).mono ?_
          rintro e w' ⟨rfl, hb⟩
          replace HO := Bi.hr (HO.out.step hb)
          clear hb
          go_wp2_with fail
          go_ret
          exact ⟨by first | rfl | (show Ending.returned (.bool (!decide (0 ≤ m))) = _; rw [hd0]; rfl), (HW.out.step HO.out.1).1⟩
        · go_wp2_with fail
          refine (first_any (HB.out _ HO.out.1) rfl (HS.out _ HO.out.1) Hs30.out hn6.out).mono ?_
          rintro e W6 ⟨⟨z', rfl, hz'⟩, hb⟩
          have ez : z' = z := hz'.one HFs.out
          subst ez
          replace HO := Bi.hr (HO.out.step hb)
          clear hb hz'
          have hzz : z' < 0 ∨ 0 ≤ z' := by omega
          rcases hzz with hzz | hzz
          · have hfv : fiV (anyL rtP xs) z' = .tuple #[.int .i64 0, .bool false] := by unfold fiV; rw [if_neg (fun h => by omega)]
            rw [hfv]
            have hz4 : ¬ 0 ≤ z' := by omega
            have hmx : max z' 0 = 0 := Int.max_eq_right (by omega)
            have hd0 : decide (0 ≤ z') = false := decide_eq_false hz4
            clear hfv HFs
            go_wp2_with fail
            refine (both_any (HB.out _ HO.out.1) rfl (HS.out _ HO.out.1) Hs30.out hn6.out).mono ?_
            rintro e W7 ⟨rfl, hb⟩
            replace HO := Bi.hr (HO.out.step hb)
            clear hb
            rw [HAn.out]
            go_wp2_with fail
            refine (Bi.awake_any (HB.out _ HO.out.1)).mono ?_
            rintro e w' ⟨rfl, hb⟩
            replace HO := Bi.hr (HO.out.step hb)
            clear hb
            go_wp2_with fail
            go_ret
            exact ⟨by first | rfl | (show Ending.returned (.bool (!decide (0 ≤ z'))) = _; rw [hd0]; rfl), (HW.out.step HO.out.1).1⟩
          · have hfv : fiV (anyL rtP xs) z' = .tuple #[.int .i64 z', .bool true] := by unfold fiV; rw [if_pos ⟨HAn.out, hzz⟩]
            rw [hfv]
            have hmx : max z' 0 = z' := Int.max_eq_left hzz
            have hd0 : decide (0 ≤ z') = true := decide_eq_true hzz
            clear hfv HFs
            go_wp2_with fail
            refine (both_any (HB.out _ HO.out.1) rfl (HS.out _ HO.out.1) Hs30.out hn6.out).mono ?_
            rintro e W7 ⟨rfl, hb⟩
            replace HO := Bi.hr (HO.out.step hb)
            clear hb
            rw [HAn.out]
            go_wp2_with fail
            refine (Bi.awake_any (HB.out _ HO.out.1)).mono ?_
            rintro e w' ⟨rfl, hb⟩
            replace HO := Bi.hr (HO.out.step hb)
            clear hb
            go_wp2_with fail
            go_ret
            exact ⟨by first | rfl | (show Ending.returned (.bool (!decide (0 ≤ z'))) = _; rw [hd0]; rfl), (HW.out.step HO.out.1).1⟩

set_option maxRecDepth 100000 in
theorem lifted (os : Os) (started : os.Started) (H : Type) (enc : TypeId × Value → H) :
    ReturnsInHanded {} Try.checked os 4 .any (Rows.bidiLabelsSpec.pre6 enc Try.prog Try.f4 Rows.bidiLabelsRow.domain false) (Rows.bidiLabelsSpec.post enc Try.prog Try.f4 false true false false) := by
  refine returnsInHanded_of_change (C := Try.checked) own started (by kernel_rfl) Try.func4
    (ChangeSpec.witness6 (enc := enc) (C := Try.checked) false ⟨#[], #[.slice none 0 0], []⟩ 8 (by kernel_rfl) (by kernel_rfl) (by kernel_rfl) (by kernel_rfl)) ?_
  intro W base args ds gs before hval0 hW hcnd _
  have hval : ∀ (j : Nat) t v, Try.f4.params[j]? = some t → args[j]? = some v → Value.okWide Try.prog W .any base t v := hval0
  have hW' := hW
  obtain ⟨p, q, hA0, hV, rfl, hfz, hnd⟩ := hW
  have hA : DataW.TrodAll enc Try.prog W 0 (fun _ => true) true Try.f4.params.toList args.toList ds p := hA0
  rw [Try.params4] at hA hval
  obtain ⟨v0, vs0, d0, ds0, p0, q0, hargs, rfl, rfl, h0, r0⟩ := trodAll_cons hA
  obtain ⟨rfl, rfl, rfl⟩ := trodAll_nil r0
  obtain rfl : args = #[v0] := by cases args; simp_all
  obtain ⟨rfl, rfl⟩ := trodVars_none hV
  obtain ⟨a0, len0, cap0, rfl⟩ := okWide_slice Try.underlying34 (hval 0 34 v0 rfl rfl)
  have k0 := h0
  have lt0 : ∀ x ∈ p0, x.block < W.heap.size := by obtain ⟨m, hm⟩ := k0; exact DataW.trod_lt m _ _ _ hm
  obtain ⟨x0, w0⟩ := Bi.open_labels (v := .slice a0 len0 cap0) rfl h0
  clear hA0 hval0
  refine (walk _ x0 W w0).mono fun e W' ⟨he, bel⟩ => ?_
  subst he
  exact ⟨_, rfl, _, _, _, [], _, [], hW', trodAll_mk1 (shut_bool Try.underlying4 _), (trodAll_cons_mk (Below.trod laidOut (by kernel_rfl) (of_decide_eq_true (by kernel_rfl)) k0 bel lt0) trodAll_mk0), rfl, bel.frame _, fun h => by cases h⟩

theorem over : Rows.bidiLabelsRow.holds Try.pinned (OpenSpec.ofChange Rows.bidiLabelsSpec) :=
  OpenClaim.holds_of_wide 4 Try.f4 rfl rfl rfl rfl rfl rfl rfl ⟨rfl, rfl, rfl, rfl, rfl⟩ rfl rfl rfl rfl rfl (by kernel_rfl) Try.func4 (by kernel_rfl)
    (of_decide_eq_true (by kernel_rfl)) (by unfold Func.isWrapper; first | (rw [if_pos (by decide +kernel)]; kernel_rfl) | (rw [if_neg (by decide +kernel)]; exact ⟨rfl, rfl⟩))
    (fun os started H enc _ => lifted os started H enc)

end Go.Proofs.Ytemdmalcoemhnaa.bidiLabels
namespace Go.Proofs.Ytemdmalcoemhnaa
theorem bidiLabels_holds : Rows.BidiLabelsSaid := bidiLabels.over
#print axioms bidiLabels_holds
end Go.Proofs.Ytemdmalcoemhnaa
