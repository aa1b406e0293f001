/-
  For every string s the law NfcTexts returns true, and s reads behind the call as it read before. No condition.
-/
import Derived.Test.YtclcmkklonnalaaGreatRows
import Derived.Test.YtclcmkklonnalaaGreatNfc19
import Derived.WalkKit
import Derived.ProofKit
import Derived.OpenShut
import Derived.ShutString
import Derived.ChangeOld
import Derived.Below
namespace Go.Proofs.YtclcmkklonnalaaGreat.nfcTexts
open Go.ChangeShapes Go.WideShapes Go.ChangeAt Go.RowKit
open Go.ChangeMaps (open_string shut_string)
set_option linter.unusedVariables false

theorem own : ownKnob Tryz.prog.godebug = none := by kernel_rfl

open Od Nf in
/-- What the law keeps: the former. -/
structure TT (w : World) (f b p d u s : Nat) (W : World) : Prop where
  ok : Ok w.heap.size w W
  fm : Fm W f b p d u s
open Od Nf in
theorem TT.step {w : World} {f b p d u s : Nat} {W W' : World} (h : TT w f b p d u s W) (hb : Below W.heap.size W W') : TT w f b p d u s W' := ⟨h.ok.step hb, h.fm.step hb⟩
open Od Nf in
set_option maxHeartbeats 8000000 in
set_option maxRecDepth 100000 in
theorem walk (a0 : ByteArray) (w0 : a0.size ≤ maxLen) (w : World) :
    Calls Tryz.prog 4 #[.string a0] w fun e w' => e = .returned (.bool true) ∧ Below w.heap.size w w' := by
  have HN := Nf.hid (former_any w)
  have HM := Nf.hid w0
  clear w0
  have HO := Nf.hid (Ok.start w)
  by_cases hl : 40 < a0.size
  · go_enter Tryz.func4, Tryz.ntmps4
    go_wp2_with fail
    refine HN.out.mono ?_
    rintro e w' ⟨f, b, p, d, u, s, rfl, hB, hb⟩
    have HB := Nf.hid hB
    replace HO := Nf.hid (HO.out.step hb)
    clear hB hb
    go_wp2_with fail
    refine (awake10_any HB.out).mono ?_
    rintro e w' ⟨rfl, hb⟩
    replace HO := Nf.hid (HO.out.step hb)
    clear hb
    go_wp2_with fail
    go_ret
    exact ⟨rfl, HO.out.1⟩
  · have hn : Hid (a0.size ≤ 40) := by show _ ≤ _; omega
    go_enter Tryz.func4, Tryz.ntmps4
    go_wp2_with fail
    refine HN.out.mono ?_
    rintro e W0 ⟨f, b, p, d, u, s, rfl, hB, hb⟩
    have K : Hid (TT w f b p d u s W0) := ⟨HO.out.step hb, hB⟩
    clear hB hb HO HN
    go_wp2_with fail
    refine (Pr.new_any W0).mono ?_
    rintro e W1 ⟨p1, d1, u1, s1, rfl, _, hb⟩
    replace K := Nf.hid (K.out.step hb)
    clear hb
    go_wp2_with fail
    refine (new_nil1 W1 _).mono ?_
    rintro e W2 ⟨rfl, rfl⟩
    go_wp2_with fail
    refine (newbook_any W2).mono ?_
    rintro e W3 ⟨b3, rfl, hb, _⟩
    replace K := Nf.hid (K.out.step hb)
    clear hb
    go_wp2_with fail
    refine (new_nil2 W3 b3).mono ?_
    rintro e W4 ⟨rfl, rfl⟩
    go_wp2_with fail
    refine (text10_any K.out.fm a0 (by have := hn.out; omega)).mono ?_
    rintro e W5 ⟨h1, hb⟩
    replace K := Nf.hid (K.out.step hb)
    have HFa := Nf.hid (Ut.rflt_any a0 W5 HM.out)
    clear hb
    rcases h1 with ⟨hf, rfl⟩ | ⟨hf, rfl⟩
    · generalize Ut.faultL a0.data.toList = fl at *
      go_wp2_with fail
      refine HFa.out.mono ?_
      rintro e W6 ⟨rfl, hb⟩
      replace K := Nf.hid (K.out.step hb)
      clear hb
      go_wp2_with fail
      refine (awake10_any K.out.fm).mono ?_
      rintro e W7 ⟨rfl, hb⟩
      replace K := Nf.hid (K.out.step hb)
      clear hb
      go_wp2_with fail
      go_ret
      exact ⟨rfl, K.out.ok.1⟩
    · have HRu := Nf.hid (fun (W : World) => Ut.rrunes_own a0 W (by have := hn.out; omega) hf)
      obtain ⟨_, r2, r3⟩ := Ut.runesL_back a0.data.toList hf
      have hle : a0.data.toList.length = a0.size := by rw [Array.length_toList]; rfl
      have HRn : Hid (∀ (W : World) (v : Value), Sn .i64 W v (Ut.runesL a0.data.toList) → Calls Tryz.prog 13 #[v] W fun e w' => ∃ v', e = .returned v' ∧ Sn .i64 w' v' (nfcP clsP (Ut.runesL a0.data.toList)) ∧ Below W.heap.size W w') := fun W v h => rnfc_any h (sc_I32 r2) (by have := hn.out; omega)
      have hlC := (nfc_I32 _ (sc_I32 r2)).2
      have HRt : Hid (∀ (W : World) (v : Value), Sn .i64 W v (nfcP clsP (Ut.runesL a0.data.toList)) → Calls Tryz.prog 19 #[v] W fun e w' => e = .returned (.string ⟨(Ut.textL (nfcP clsP (Ut.runesL a0.data.toList))).toArray⟩) ∧ Below W.heap.size W w') := fun W v h => Ut.rtext_any v _ W (od_ut h.sl) (by have := hn.out; omega)
      clear r2 r3 hlC hle
      generalize Ut.faultL a0.data.toList = fl at *
      generalize Ut.textL (nfcP clsP (Ut.runesL a0.data.toList)) = tx at *
      generalize nfcP clsP (Ut.runesL a0.data.toList) = nl at *
      generalize Ut.runesL a0.data.toList = rl at *
      have hf2 : ¬ 0 ≤ fl := by omega
      go_wp2_with fail
      refine HFa.out.mono ?_
      rintro e W6 ⟨rfl, hb⟩
      replace K := Nf.hid (K.out.step hb)
      clear hb
      go_wp2_with fail
      refine (HRu.out W6).mono ?_
      rintro e W7 ⟨v7, rfl, ⟨B7, ho7, hne7⟩, hb⟩
      have S7 : Hid (Sn .i64 W7 v7 rl) := (ownF_sl ho7).sn (some_of ho7 hne7)
      replace K := Nf.hid (K.out.step hb)
      clear hb ho7 hne7
      go_wp2_with fail
      refine (HRn.out W7 v7 S7.out).mono ?_
      rintro e W8 ⟨v8, rfl, h8, hb⟩
      have S8 := Nf.hid h8
      replace K := Nf.hid (K.out.step hb)
      clear hb h8 S7
      go_wp2_with fail
      refine (HRt.out W8 v8 S8.out).mono ?_
      rintro e W9 ⟨rfl, hb⟩
      replace K := Nf.hid (K.out.step hb)
      clear hb S8
      go_wp2_with fail
      refine (awake10_any K.out.fm).mono ?_
      rintro e W10 ⟨rfl, hb⟩
      replace K := Nf.hid (K.out.step hb)
      clear hb
      go_wp2_with fail
      go_ret
      exact ⟨rfl, K.out.ok.1⟩

set_option maxRecDepth 100000 in
theorem lifted (os : Os) (started : os.Started) (H : Type) (enc : TypeId × Value → H) :
    ReturnsInHanded {} Tryz.checked os 4 .any (Rows.nfcTextsSpec.pre6 enc Tryz.prog Tryz.f4 Rows.nfcTextsRow.domain false) (Rows.nfcTextsSpec.post enc Tryz.prog Tryz.f4 false true false false) := by
  refine returnsInHanded_of_change (C := Tryz.checked) own started (by kernel_rfl) Tryz.func4
    (ChangeSpec.witness6 (enc := enc) (C := Tryz.checked) false ⟨#[], #[.string ByteArray.empty], []⟩ 8 (by kernel_rfl) (by kernel_rfl) (by kernel_rfl) (by kernel_rfl)) ?_
  intro W base args ds gs before hval0 hW hcnd _
  have hval : ∀ (j : Nat) t v, Tryz.f4.params[j]? = some t → args[j]? = some v → Value.okWide Tryz.prog W .any base t v := hval0
  have hW' := hW
  obtain ⟨p, q, hA0, hV, rfl, hfz, hnd⟩ := hW
  have hA : DataW.TrodAll enc Tryz.prog W 0 (fun _ => true) true Tryz.f4.params.toList args.toList ds p := hA0
  rw [Tryz.params4] at hA hval
  obtain ⟨v0, vs0, d0, ds0, p0, q0, hargs, rfl, rfl, h0, r0⟩ := trodAll_cons hA
  obtain ⟨rfl, rfl, rfl⟩ := trodAll_nil r0
  obtain rfl : args = #[v0] := by cases args; simp_all
  obtain ⟨rfl, rfl⟩ := trodVars_none hV
  obtain ⟨a0, rfl, rfl, rfl, w0⟩ := open_string Tryz.underlying9 (hval 0 9 v0 rfl rfl) h0
  clear hA0 hval0
  refine (walk a0 w0 W).mono fun e W' ⟨he, bel⟩ => ?_
  subst he
  exact ⟨_, rfl, _, _, _, [], _, [], hW', trodAll_mk1 (shut_bool Tryz.underlying4 _), (trodAll_cons_mk (shut_string Tryz.underlying9 w0) trodAll_mk0), rfl, bel.frame _, fun h => by cases h⟩

theorem over : Rows.nfcTextsRow.holds Tryz.pinned (OpenSpec.ofChange Rows.nfcTextsSpec) :=
  OpenClaim.holds_of_wide 4 Tryz.f4 rfl rfl rfl rfl rfl rfl rfl ⟨rfl, rfl, rfl, rfl, rfl⟩ rfl rfl rfl rfl rfl (by kernel_rfl) Tryz.func4 (by kernel_rfl)
    (of_decide_eq_true (by kernel_rfl)) (by unfold Func.isWrapper; first | (rw [if_pos (by decide +kernel)]; kernel_rfl) | (rw [if_neg (by decide +kernel)]; exact ⟨rfl, rfl⟩))
    (fun os started H enc _ => lifted os started H enc)

end Go.Proofs.YtclcmkklonnalaaGreat.nfcTexts
namespace Go.Proofs.YtclcmkklonnalaaGreat
theorem nfcTexts_holds : Rows.NfcTextsSaid := nfcTexts.over
#print axioms nfcTexts_holds
end Go.Proofs.YtclcmkklonnalaaGreat
