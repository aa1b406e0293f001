/-
  For every slice l of runes the law NfcForms returns true, and l reads behind the call as it read before. No condition.
-/
import Derived.Test.YtclcmkklonnalaaRows
import Derived.Test.YtclcmkklonnalaaNfc10x13
import Derived.WalkKit
import Derived.ProofKit
import Derived.OpenShut
import Derived.ShutString
import Derived.ChangeOld
import Derived.Below
namespace Go.Proofs.Ytclcmkklonnalaa.nfcForms
open Go.ChangeShapes Go.WideShapes Go.ChangeAt Go.RowKit
open Go.ChangeMaps (open_string shut_string)
set_option linter.unusedVariables false

theorem own : ownKnob Try.prog.godebug = none := by kernel_rfl
theorem laidOut : laidOutB Try.prog = true := by kernel_rfl

/-- WHAT THE WALK IS TOLD OF A SLICE OF INTEGERS THAT CAME IN: it is nil; or it leads to a row of 'cap' cells, the numbers 'zs' (the first 'len' are its elements, the rest its spare room), each fitting its kind. -/
def IsRow (k : IntKind) (w : World) (a : Option Addr) (len cap : Nat) (zs : List Int) : Prop :=
  (a = none ∧ len = 0 ∧ cap = 0 ∧ zs = []) ∨
  ∃ x, a = some x ∧ len ≤ cap ∧ cap ≤ maxLen ∧ zs.length = cap ∧ (∀ i, i < zs.length → w.cell? (x.add i) = some (.int k (zs.getD i 0))) ∧ ∀ n ∈ zs, (Lit.int k n).wf = true

open Od Nf in
/-- What the law keeps: the former, and the slice. -/
structure TF (w : World) (f b p d u s : Nat) (va : Value) (zs : List Int) (W : World) : Prop where
  ok : Ok w.heap.size w W
  fm : Fm W f b p d u s
  l : Sl .i32 W va zs
open Od Nf in
theorem TF.step {w : World} {f b p d u s : Nat} {va : Value} {zs : List Int} {W W' : World} (h : TF w f b p d u s va zs W) (hb : Below W.heap.size W W') : TF w f b p d u s va zs W' := ⟨h.ok.step hb, h.fm.step hb, h.l.step hb⟩
open Od Nf in
set_option maxHeartbeats 8000000 in
set_option maxRecDepth 100000 in
theorem walk (a0 : Option Addr) (len0 cap0 : Nat) (z0 : List Int) (w : World) (w0 : IsRow .i32 w a0 len0 cap0 z0) :
    Calls Try.prog 6 #[.slice a0 len0 cap0] w fun e w' => e = .returned (.bool true) ∧ Below w.heap.size w w' := by
  obtain ⟨hlen, hS, hZ⟩ := row_sl w0
  have HZ : Hid (∀ y ∈ z0.take len0, Pr.I32 y) := fun y hy => ⟨(hZ y hy).1, (hZ y hy).2⟩
  have HS : Hid (Sl .i32 w (.slice a0 len0 cap0) (z0.take len0)) := ⟨a0, cap0, by rw [hlen], hS⟩
  have HN := Nf.hid (former_any w)
  have hLen : Hid ((z0.take len0).length = len0) := hlen
  generalize z0.take len0 = zs at *
  clear w0 hS hZ hlen
  have HO := Nf.hid (Ok.start w)
  by_cases hl : 12 < len0
  · go_enter Try.func6, Try.ntmps6
    go_wp2_with fail
    refine HN.out.mono ?_
    rintro e w' ⟨f, b, p, d, u, s, rfl, hB, hb⟩
    have HB := Nf.hid hB
    replace HO := Nf.hid (HO.out.step hb)
    clear hB hb
    go_wp2_with fail
    refine (awake10_any HB.out).mono ?_
    rintro e w' ⟨rfl, hb⟩
    replace HO := Nf.hid (HO.out.step hb)
    clear hb
    go_wp2_with fail
    go_ret
    exact ⟨rfl, HO.out.1⟩
  · go_enter Try.func6, Try.ntmps6
    have hn : Hid (zs.length ≤ 12) := by show _ ≤ _; have := hLen.out; omega
    have HID := Nf.hid (nfd_I32 clsP zs HZ.out)
    have HIC := Nf.hid (nfc_I32 zs HZ.out).1
    have HIP := Nf.hid (comp_I32 zs HZ.out).1
    have hnD : Hid ((nfdP clsP zs).length ≤ 10000) := by show _ ≤ _; have h1 := nfd_len zs; have h2 := hn.out; omega
    have hnC : Hid ((nfcP clsP zs).length ≤ 10000) := by show _ ≤ _; have h1 := (nfc_I32 zs HZ.out).2; have h2 := hn.out; omega
    have hnP : Hid ((compP clsP zs).length ≤ 10000) := by show _ ≤ _; have h1 := (comp_I32 zs HZ.out).2; have h2 := hn.out; omega
    go_wp2_with fail
    refine HN.out.mono ?_
    rintro e W0 ⟨f, b, p, d, u, s, rfl, hB, hb⟩
    have K : Hid (TF w f b p d u s (.slice a0 len0 cap0) zs W0) := ⟨HO.out.step hb, hB, HS.out.step hb⟩
    clear hB hb HO HS HN
    go_wp2_with fail
    refine (ints10_any _ _ _ K.out.l (by have := hn.out; omega) (fun z hz => ⟨(HZ.out z hz).1, (HZ.out z hz).2⟩)).mono ?_
    rintro e W1 ⟨v1, rfl, h1, hb⟩
    replace K := Nf.hid (K.out.step hb)
    have SN := Nf.hid h1
    clear h1 hb
    go_wp2_with fail
    refine (nfd_any K.out.fm K.out.l HZ.out (by have := hn.out; omega)).mono ?_
    rintro e W2 ⟨v2, rfl, h1, hb⟩
    replace K := Nf.hid (K.out.step hb)
    replace SN := Nf.hid (SN.out.step hb)
    have SA := Nf.hid h1
    clear h1 hb
    go_wp2_with fail
    refine (ints10_any _ _ _ SA.out (by have := hnD.out; omega) (fun z hz => ⟨(HID.out z hz).1, (HID.out z hz).2⟩)).mono ?_
    rintro e W3 ⟨v3, rfl, h1, hb⟩
    clear SA
    replace K := Nf.hid (K.out.step hb)
    replace SN := Nf.hid (SN.out.step hb)
    have SB := Nf.hid h1
    clear h1 hb
    go_wp2_with fail
    refine (rnfd_any SN.out (by have := hn.out; omega)).mono ?_
    rintro e W4 ⟨v4, rfl, h1, hb⟩
    replace K := Nf.hid (K.out.step hb)
    replace SN := Nf.hid (SN.out.step hb)
    replace SB := Nf.hid (SB.out.step hb)
    have SC := Nf.hid h1
    clear h1 hb
    go_wp2_with fail
    refine (same_any _ _ _ _ _ SB.out.sl SC.out.sl (by have := hnD.out; omega)).mono ?_
    rw [decide_eq_true rfl]
    rintro e W5 ⟨rfl, hb⟩
    clear SB
    clear SC
    replace K := Nf.hid (K.out.step hb)
    replace SN := Nf.hid (SN.out.step hb)
    clear hb
    go_wp2_with fail
    refine (nfc_any K.out.fm K.out.l HZ.out (by have := hn.out; omega)).mono ?_
    rintro e W6 ⟨v6, rfl, h1, hb⟩
    replace K := Nf.hid (K.out.step hb)
    replace SN := Nf.hid (SN.out.step hb)
    have SA := Nf.hid h1
    clear h1 hb
    go_wp2_with fail
    refine (ints10_any _ _ _ SA.out (by have := hnC.out; omega) (fun z hz => ⟨(HIC.out z hz).1, (HIC.out z hz).2⟩)).mono ?_
    rintro e W7 ⟨v7, rfl, h1, hb⟩
    clear SA
    replace K := Nf.hid (K.out.step hb)
    replace SN := Nf.hid (SN.out.step hb)
    have SB := Nf.hid h1
    clear h1 hb
    go_wp2_with fail
    refine (rnfc_any SN.out HZ.out (by have := hn.out; omega)).mono ?_
    rintro e W8 ⟨v8, rfl, h1, hb⟩
    replace K := Nf.hid (K.out.step hb)
    replace SN := Nf.hid (SN.out.step hb)
    replace SB := Nf.hid (SB.out.step hb)
    have SC := Nf.hid h1
    clear h1 hb
    go_wp2_with fail
    refine (same_any _ _ _ _ _ SB.out.sl SC.out.sl (by have := hnC.out; omega)).mono ?_
    rw [decide_eq_true rfl]
    rintro e W9 ⟨rfl, hb⟩
    clear SB
    clear SC
    replace K := Nf.hid (K.out.step hb)
    replace SN := Nf.hid (SN.out.step hb)
    clear hb
    go_wp2_with fail
    refine (compose_any K.out.fm K.out.l HZ.out (by have := hn.out; omega)).mono ?_
    rintro e W10 ⟨v10, rfl, h1, hb⟩
    replace K := Nf.hid (K.out.step hb)
    replace SN := Nf.hid (SN.out.step hb)
    have SA := Nf.hid h1
    clear h1 hb
    go_wp2_with fail
    refine (ints10_any _ _ _ SA.out (by have := hnP.out; omega) (fun z hz => ⟨(HIP.out z hz).1, (HIP.out z hz).2⟩)).mono ?_
    rintro e W11 ⟨v11, rfl, h1, hb⟩
    clear SA
    replace K := Nf.hid (K.out.step hb)
    replace SN := Nf.hid (SN.out.step hb)
    have SB := Nf.hid h1
    clear h1 hb
    go_wp2_with fail
    refine (rcompose_any SN.out HZ.out (by have := hn.out; omega)).mono ?_
    rintro e W12 ⟨v12, rfl, h1, hb⟩
    replace K := Nf.hid (K.out.step hb)
    replace SN := Nf.hid (SN.out.step hb)
    replace SB := Nf.hid (SB.out.step hb)
    have SC := Nf.hid h1
    clear h1 hb
    go_wp2_with fail
    refine (same_any _ _ _ _ _ SB.out.sl SC.out.sl (by have := hnP.out; omega)).mono ?_
    rw [decide_eq_true rfl]
    rintro e W13 ⟨rfl, hb⟩
    clear SB
    clear SC
    replace K := Nf.hid (K.out.step hb)
    replace SN := Nf.hid (SN.out.step hb)
    clear hb
    go_wp2_with fail
    refine (awake10_any K.out.fm).mono ?_
    rintro e W14 ⟨rfl, hb⟩
    clear SN
    replace K := Nf.hid (K.out.step hb)
    clear hb
    go_wp2_with fail
    go_ret
    exact ⟨rfl, K.out.ok.1⟩

set_option maxRecDepth 100000 in
theorem lifted (os : Os) (started : os.Started) (H : Type) (enc : TypeId × Value → H) :
    ReturnsInHanded {} Try.checked os 6 .any (Rows.nfcFormsSpec.pre6 enc Try.prog Try.f6 Rows.nfcFormsRow.domain false) (Rows.nfcFormsSpec.post enc Try.prog Try.f6 false true false false) := by
  refine returnsInHanded_of_change (C := Try.checked) own started (by kernel_rfl) Try.func6
    (ChangeSpec.witness6 (enc := enc) (C := Try.checked) false ⟨#[], #[.slice none 0 0], []⟩ 8 (by kernel_rfl) (by kernel_rfl) (by kernel_rfl) (by kernel_rfl)) ?_
  intro W base args ds gs before hval0 hW hcnd _
  have hval : ∀ (j : Nat) t v, Try.f6.params[j]? = some t → args[j]? = some v → Value.okWide Try.prog W .any base t v := hval0
  have hW' := hW
  obtain ⟨p, q, hA0, hV, rfl, hfz, hnd⟩ := hW
  have hA : DataW.TrodAll enc Try.prog W 0 (fun _ => true) true Try.f6.params.toList args.toList ds p := hA0
  rw [Try.params6] at hA hval
  obtain ⟨v0, vs0, d0, ds0, p0, q0, hargs, rfl, rfl, h0, r0⟩ := trodAll_cons hA
  obtain ⟨rfl, rfl, rfl⟩ := trodAll_nil r0
  obtain rfl : args = #[v0] := by cases args; simp_all
  obtain ⟨rfl, rfl⟩ := trodVars_none hV
  obtain ⟨a0, len0, cap0, rfl⟩ := okWide_slice Try.underlying22 (hval 0 22 v0 rfl rfl)
  have k0 := h0
  have lt0 : ∀ x ∈ p0, x.block < W.heap.size := by obtain ⟨m, hm⟩ := k0; exact DataW.trod_lt m _ _ _ hm
  obtain ⟨z0, w0⟩ : ∃ zs, IsRow .i32 W a0 len0 cap0 zs := by
    obtain ⟨fuel, hf⟩ := h0
    rcases open_ints Try.underlying22 Try.underlying21 (by kernel_rfl) hf with ⟨hcs, _⟩ | ⟨x, l, c, zs, hcs, _, hl, hm, hz, _, hcell, hwz⟩
    · simp [Value.cells] at hcs
      obtain ⟨rfl, rfl, rfl⟩ := hcs
      exact ⟨[], .inl ⟨rfl, rfl, rfl, rfl⟩⟩
    · simp [Value.cells] at hcs
      obtain ⟨rfl, rfl, rfl⟩ := hcs
      exact ⟨zs, .inr ⟨_, rfl, hl, hm, by simpa using hz, hcell, hwz⟩⟩
  clear hA0 hval0
  refine (walk a0 len0 cap0 z0 W w0).mono fun e W' ⟨he, bel⟩ => ?_
  subst he
  exact ⟨_, rfl, _, _, _, [], _, [], hW', trodAll_mk1 (shut_bool Try.underlying4 _), (trodAll_cons_mk (Below.trod laidOut (by kernel_rfl) (of_decide_eq_true (by kernel_rfl)) k0 bel lt0) trodAll_mk0), rfl, bel.frame _, fun h => by cases h⟩

theorem over : Rows.nfcFormsRow.holds Try.pinned (OpenSpec.ofChange Rows.nfcFormsSpec) :=
  OpenClaim.holds_of_wide 6 Try.f6 rfl rfl rfl rfl rfl rfl rfl ⟨rfl, rfl, rfl, rfl, rfl⟩ rfl rfl rfl rfl rfl (by kernel_rfl) Try.func6 (by kernel_rfl)
    (of_decide_eq_true (by kernel_rfl)) (by unfold Func.isWrapper; first | (rw [if_pos (by decide +kernel)]; kernel_rfl) | (rw [if_neg (by decide +kernel)]; exact ⟨rfl, rfl⟩))
    (fun os started H enc _ => lifted os started H enc)

end Go.Proofs.Ytclcmkklonnalaa.nfcForms
namespace Go.Proofs.Ytclcmkklonnalaa
theorem nfcForms_holds : Rows.NfcFormsSaid := nfcForms.over
#print axioms nfcForms_holds
end Go.Proofs.Ytclcmkklonnalaa
