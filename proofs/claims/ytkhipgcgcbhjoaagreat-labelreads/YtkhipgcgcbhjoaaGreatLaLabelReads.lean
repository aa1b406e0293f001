/-
  For every text s, and each bidi, the law LabelReads returns true. No condition.
-/
import Derived.Test.YtkhipgcgcbhjoaaGreatRows
import Derived.Test.YtkhipgcgcbhjoaaGreatLa57
import Derived.WalkKit
import Derived.ProofKit
import Derived.OpenShut
import Derived.ShutString
import Derived.ChangeOld
import Derived.Below
namespace Go.Proofs.YtkhipgcgcbhjoaaGreat.labelReads
open Go.ChangeShapes Go.WideShapes Go.ChangeAt Go.RowKit
open Go.ChangeMaps (open_string shut_string)
set_option linter.unusedVariables false

theorem own : ownKnob Tryz.prog.godebug = none := by kernel_rfl

open Od Pr Nf La in
set_option maxHeartbeats 8000000 in
set_option maxRecDepth 100000 in
theorem walk (a0 : ByteArray) (a1 : Bool) (w0 : a0.size ≤ maxLen) (w : World) :
    Calls Tryz.prog 6 #[.string a0, .bool a1] w fun e w' => e = .returned (.bool true) ∧ Below w.heap.size w w' := by
  have HO := La.hr (Ok.start w)
  have HCk := La.hr (checker_any w)
  by_cases hl : 30 < a0.size
  · go_enter Tryz.func6, Tryz.ntmps6
    go_wp2_with fail
    refine HCk.out.mono ?_
    rintro e W1 ⟨c, b, f, j, g, p, d, u, s, rfl, hC, hb⟩
    have HC := La.hr hC
    replace HO := La.hr (HO.out.step hb)
    clear hb hC HCk
    go_wp2_with fail
    refine (awake16_any HC.out).mono ?_
    rintro e w' ⟨rfl, hb⟩
    replace HO := La.hr (HO.out.step hb)
    clear hb
    go_wp2_with fail
    go_ret
    exact ⟨rfl, HO.out.1⟩
  · have hl' : ¬ (30 : Int) < (a0.size : Int) := by omega
    have HFa := La.hr (fun (W : World) (c b f j g p d u s : Nat) (hC : Ck W c b f j g p d u s) => from_any hC a0 (by omega) a1)
    have HRf := La.hr (fun W => rfrom_any a0 (by omega) a1 W)
    have HLw := La.hr (fun W => Oc.rlower_any a0 W (by omega))
    have hts : (Oc.lowS a0).size ≤ 30 := by rw [Oc.low_size]; omega
    obtain ⟨k, l, hkl⟩ : ∃ k l, frR (Oc.lowS a0) a1 = (k, l) := ⟨_, _, rfl⟩
    have HL := La.hr (fr_small hkl (by omega))
    have HTo : Hid (k = 0 → toF l a1 = 0 ∧ toS l a1 = Oc.lowS a0) := fun h => by
      subst h
      have := to_fr hkl
      exact ⟨this.1, this.2.1⟩
    rw [hkl] at HFa HRf
    clear hl hkl hts
    generalize Oc.lowS a0 = t at *
    go_enter Tryz.func6, Tryz.ntmps6
    go_wp2_with fail
    refine HCk.out.mono ?_
    rintro e W1 ⟨c, b, f, j, g, p, d, u, s, rfl, hC, hb⟩
    have HC := La.hr hC
    replace HO := La.hr (HO.out.step hb)
    clear hb hC HCk
    go_wp2_with fail
    refine (HFa.out _ _ _ _ _ _ _ _ _ _ HC.out).mono ?_
    rintro e W2 ⟨v2, rfl, hS, hb⟩
    have S2 := La.hr hS
    replace HC := La.hr (HC.out.step hb)
    replace HO := La.hr (HO.out.step hb)
    clear hb hS HFa
    go_wp2_with fail
    refine (HRf.out _).mono ?_
    rintro e W3 ⟨v3, rfl, hS, hb⟩
    have S3 := La.hr hS
    replace S2 := La.hr (S2.out.step hb)
    replace HC := La.hr (HC.out.step hb)
    replace HO := La.hr (HO.out.step hb)
    clear hb hS HRf
    go_wp2_with fail
    refine (ints16_any _ _ _ S2.out (by show l.length ≤ _; have := HL.out.1; omega) (fun z hz => by have := HL.out.2 z hz; omega)).mono ?_
    rintro e W4 ⟨v4, rfl, h1, hb⟩
    have S4 := La.hr h1.sl
    replace S2 := La.hr (S2.out.step hb)
    replace S3 := La.hr (S3.out.step hb)
    replace HC := La.hr (HC.out.step hb)
    replace HO := La.hr (HO.out.step hb)
    clear hb h1
    go_wp2_with fail
    refine (same_any _ _ _ _ _ S4.out S3.out (by show l.length ≤ _; have := HL.out.1; omega)).mono ?_
    rintro e W5 ⟨rfl, hb⟩
    replace S2 := La.hr (S2.out.step hb)
    replace HC := La.hr (HC.out.step hb)
    replace HO := La.hr (HO.out.step hb)
    clear hb S3 S4
    rw [decide_eq_true rfl]
    by_cases hk : k = 0
    · subst hk
      obtain ⟨h1, h2⟩ := HTo.out rfl
      have HT2 := La.hr (fun (W : World) (hC : Ck W c b f j g p d u s) (hS : Sl .i32 W v2 l) => toold_any hC hS (fun y hy => ⟨by have := HL.out.2 y hy; omega, by have := HL.out.2 y hy; omega⟩) (by have := HL.out.1; omega) a1)
      rw [h1, h2] at HT2
      clear h1 h2 HTo
      go_wp2_with fail
      refine (HT2.out _ HC.out S2.out).mono ?_
      rintro e W6 ⟨rfl, hb⟩
      replace HC := La.hr (HC.out.step hb)
      replace HO := La.hr (HO.out.step hb)
      clear hb HT2
      go_wp2_with fail
      refine (HLw.out _).mono ?_
      rintro e W7 ⟨rfl, hb⟩
      replace HC := La.hr (HC.out.step hb)
      replace HO := La.hr (HO.out.step hb)
      clear hb HLw
      have qt := bya_eq (rfl : t = t)
      go_wp2_with fail
      refine (awake16_any HC.out).mono ?_
      rintro e w' ⟨rfl, hb⟩
      replace HO := La.hr (HO.out.step hb)
      clear hb
      go_wp2_with fail
      go_ret
      exact ⟨rfl, HO.out.1⟩
    · have q1 : (k != 0) = true := by simpa using hk
      clear hk
      go_wp2_with fail
      refine (awake16_any HC.out).mono ?_
      rintro e w' ⟨rfl, hb⟩
      replace HO := La.hr (HO.out.step hb)
      clear hb
      go_wp2_with fail
      go_ret
      exact ⟨rfl, HO.out.1⟩

set_option maxRecDepth 100000 in
theorem lifted (os : Os) (started : os.Started) (H : Type) (enc : TypeId × Value → H) :
    ReturnsInHanded {} Tryz.checked os 6 .any (Rows.labelReadsSpec.pre6 enc Tryz.prog Tryz.f6 Rows.labelReadsRow.domain false) (Rows.labelReadsSpec.post enc Tryz.prog Tryz.f6 false true false false) := by
  refine returnsInHanded_of_change (C := Tryz.checked) own started (by kernel_rfl) Tryz.func6
    (ChangeSpec.witness6 (enc := enc) (C := Tryz.checked) false ⟨#[], #[.string ByteArray.empty, .bool false], []⟩ 8 (by kernel_rfl) (by kernel_rfl) (by kernel_rfl) (by kernel_rfl)) ?_
  intro W base args ds gs before hval0 hW hcnd _
  have hval : ∀ (j : Nat) t v, Tryz.f6.params[j]? = some t → args[j]? = some v → Value.okWide Tryz.prog W .any base t v := hval0
  have hW' := hW
  obtain ⟨p, q, hA0, hV, rfl, hfz, hnd⟩ := hW
  have hA : DataW.TrodAll enc Tryz.prog W 0 (fun _ => true) true Tryz.f6.params.toList args.toList ds p := hA0
  rw [Tryz.params6] at hA hval
  obtain ⟨v0, vs0, d0, ds0, p0, q0, hargs, rfl, rfl, h0, r0⟩ := trodAll_cons hA
  obtain ⟨v1, vs1, d1, ds1, p1, q1, rfl, rfl, rfl, h1, r1⟩ := trodAll_cons r0
  obtain ⟨rfl, rfl, rfl⟩ := trodAll_nil r1
  obtain rfl : args = #[v0, v1] := by cases args; simp_all
  obtain ⟨rfl, rfl⟩ := trodVars_none hV
  obtain ⟨a0, rfl, rfl, rfl, w0⟩ := open_string Tryz.underlying9 (hval 0 9 v0 rfl rfl) h0
  obtain ⟨a1, rfl, rfl, rfl⟩ := open_bool Tryz.underlying4 (hval 1 4 v1 rfl rfl) h1
  clear hA0 hval0
  refine (walk a0 a1 w0 W).mono fun e W' ⟨he, bel⟩ => ?_
  subst he
  exact ⟨_, rfl, _, _, _, [], _, [], hW', trodAll_mk1 (shut_bool Tryz.underlying4 _), (trodAll_cons_mk (shut_string Tryz.underlying9 w0) (trodAll_cons_mk (shut_bool Tryz.underlying4 _) trodAll_mk0)), rfl, bel.frame _, fun h => by cases h⟩

theorem over : Rows.labelReadsRow.holds Tryz.pinned (OpenSpec.ofChange Rows.labelReadsSpec) :=
  OpenClaim.holds_of_wide 6 Tryz.f6 rfl rfl rfl rfl rfl rfl rfl ⟨rfl, rfl, rfl, rfl, rfl⟩ rfl rfl rfl rfl rfl (by kernel_rfl) Tryz.func6 (by kernel_rfl)
    (of_decide_eq_true (by kernel_rfl)) (by unfold Func.isWrapper; first | (rw [if_pos (by decide +kernel)]; kernel_rfl) | (rw [if_neg (by decide +kernel)]; exact ⟨rfl, rfl⟩))
    (fun os started H enc _ => lifted os started H enc)

end Go.Proofs.YtkhipgcgcbhjoaaGreat.labelReads
namespace Go.Proofs.YtkhipgcgcbhjoaaGreat
theorem labelReads_holds : Rows.LabelReadsSaid := labelReads.over
#print axioms labelReads_holds
end Go.Proofs.YtkhipgcgcbhjoaaGreat
