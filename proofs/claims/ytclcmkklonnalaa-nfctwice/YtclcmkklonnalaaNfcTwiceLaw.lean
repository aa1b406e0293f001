/-
  For every slice l of runes the law NfcTwice returns true, and l reads behind the call as it read before. No condition.
-/
import Derived.Test.YtclcmkklonnalaaRows
import Derived.Test.YtclcmkklonnalaaNfc3x9
import Derived.WalkKit
import Derived.ProofKit
import Derived.OpenShut
import Derived.ShutString
import Derived.ChangeOld
import Derived.Below
namespace Go.Proofs.Ytclcmkklonnalaa.nfcTwice
open Go.ChangeShapes Go.WideShapes Go.ChangeAt Go.RowKit
open Go.ChangeMaps (open_string shut_string)
set_option linter.unusedVariables false

theorem own : ownKnob Try.prog.godebug = none := by kernel_rfl
theorem laidOut : laidOutB Try.prog = true := by kernel_rfl

/-- WHAT THE WALK IS TOLD OF A SLICE OF INTEGERS THAT CAME IN: it is nil; or it leads to a row of 'cap' cells, the numbers 'zs' (the first 'len' are its elements, the rest its spare room), each fitting its kind. -/
def IsRow (k : IntKind) (w : World) (a : Option Addr) (len cap : Nat) (zs : List Int) : Prop :=
  (a = none ∧ len = 0 ∧ cap = 0 ∧ zs = []) ∨
  ∃ x, a = some x ∧ len ≤ cap ∧ cap ≤ maxLen ∧ zs.length = cap ∧ (∀ i, i < zs.length → w.cell? (x.add i) = some (.int k (zs.getD i 0))) ∧ ∀ n ∈ zs, (Lit.int k n).wf = true

open Od Nf in
/-- What the law keeps: the former, the slice, and its two forms as numbers. -/
structure TW (w : World) (f b p d u s : Nat) (vl : Value) (zs : List Int) (W : World) : Prop where
  ok : Ok w.heap.size w W
  fm : Fm W f b p d u s
  l : Sl .i32 W vl zs
open Od Nf in
theorem TW.step {w : World} {f b p d u s : Nat} {vl : Value} {zs : List Int} {W W' : World} (h : TW w f b p d u s vl zs W) (hb : Below W.heap.size W W') : TW w f b p d u s vl zs W' := ⟨h.ok.step hb, h.fm.step hb, h.l.step hb⟩
open Od Nf in
set_option maxHeartbeats 8000000 in
set_option maxRecDepth 100000 in
theorem walk (a0 : Option Addr) (len0 cap0 : Nat) (z0 : List Int) (w : World) (w0 : IsRow .i32 w a0 len0 cap0 z0) :
    Calls Try.prog 7 #[.slice a0 len0 cap0] w fun e w' => e = .returned (.bool true) ∧ Below w.heap.size w w' := by
  obtain ⟨hlen, hS, hZ⟩ := row_sl w0
  have HZ : Hid (∀ y ∈ z0.take len0, Pr.I32 y) := fun y hy => ⟨(hZ y hy).1, (hZ y hy).2⟩
  have HS : Hid (Sl .i32 w (.slice a0 len0 cap0) (z0.take len0)) := ⟨a0, cap0, by rw [hlen], hS⟩
  have HN := Nf.hid (former_any w)
  have hLen : Hid ((z0.take len0).length = len0) := hlen
  generalize z0.take len0 = zs at *
  clear w0 hS hZ hlen
  have HO := Nf.hid (Ok.start w)
  by_cases hl : 60 < len0
  · go_enter Try.func7, Try.ntmps7
    go_wp2_with fail
    refine HN.out.mono ?_
    rintro e w' ⟨f, b, p, d, u, s, rfl, hB, hb⟩
    have HB := Nf.hid hB
    replace HO := Nf.hid (HO.out.step hb)
    clear hB hb
    go_wp2_with fail
    refine (awake10_any HB.out).mono ?_
    rintro e w' ⟨rfl, hb⟩
    replace HO := Nf.hid (HO.out.step hb)
    clear hb
    go_wp2_with fail
    go_ret
    exact ⟨rfl, HO.out.1⟩
  · go_enter Try.func7, Try.ntmps7
    have hn : Hid (zs.length ≤ 60) := by show _ ≤ _; have := hLen.out; omega
    have HID := Nf.hid (nfd_I32 clsP zs HZ.out)
    have HIC := Nf.hid (nfc_I32 zs HZ.out).1
    have hnD : Hid ((nfdP clsP zs).length ≤ 10000) := by show _ ≤ _; have h1 := nfd_len zs; have h2 := hn.out; omega
    have hnC : Hid ((nfcP clsP zs).length ≤ 10000) := by show _ ≤ _; have h1 := (nfc_I32 zs HZ.out).2; have h2 := hn.out; omega
    have HDD : Hid (nfdP clsP (nfdP clsP zs) = nfdP clsP zs) := nfd_nfd clsP zs
    have HDC : Hid (nfdP clsP (nfcP clsP zs) = nfdP clsP zs) := nfd_nfc clsP (fun x => (cls_bd x).1) zs
    have HCD : Hid (nfcP clsP (nfdP clsP zs) = nfcP clsP zs) := nfc_nfd clsP zs
    have HCC : Hid (nfcP clsP (nfcP clsP zs) = nfcP clsP zs) := nfc_nfc clsP (fun x => (cls_bd x).1) zs
    go_wp2_with fail
    refine HN.out.mono ?_
    rintro e W0 ⟨f, b, p, d, u, s, rfl, hB, hb⟩
    have K : Hid (TW w f b p d u s (.slice a0 len0 cap0) zs W0) := ⟨HO.out.step hb, hB, HS.out.step hb⟩
    clear hB hb HO HS HN
    go_wp2_with fail
    refine (nfc_any K.out.fm K.out.l HZ.out (by have := hn.out; omega)).mono ?_
    rintro e W1 ⟨v1, rfl, h1, hb⟩
    replace K := Nf.hid (K.out.step hb)
    have S1 := Nf.hid h1
    clear h1 hb
    go_wp2_with fail
    refine (ints10_any _ _ _ S1.out (by have := hnC.out; omega) (fun z hz => ⟨(HIC.out z hz).1, (HIC.out z hz).2⟩)).mono ?_
    rintro e W2 ⟨v2, rfl, h1, hb⟩
    clear S1
    replace K := Nf.hid (K.out.step hb)
    have S2 := Nf.hid h1
    clear h1 hb
    go_wp2_with fail
    refine (nfd_any K.out.fm K.out.l HZ.out (by have := hn.out; omega)).mono ?_
    rintro e W3 ⟨v3, rfl, h1, hb⟩
    replace K := Nf.hid (K.out.step hb)
    replace S2 := Nf.hid (S2.out.step hb)
    have S3 := Nf.hid h1
    clear h1 hb
    go_wp2_with fail
    refine (ints10_any _ _ _ S3.out (by have := hnD.out; omega) (fun z hz => ⟨(HID.out z hz).1, (HID.out z hz).2⟩)).mono ?_
    rintro e W4 ⟨v4, rfl, h1, hb⟩
    clear S3
    replace K := Nf.hid (K.out.step hb)
    replace S2 := Nf.hid (S2.out.step hb)
    have S4 := Nf.hid h1
    clear h1 hb
    go_wp2_with fail
    refine (nfc_any K.out.fm K.out.l HZ.out (by have := hn.out; omega)).mono ?_
    rintro e W5 ⟨v5, rfl, h1, hb⟩
    replace K := Nf.hid (K.out.step hb)
    replace S2 := Nf.hid (S2.out.step hb)
    replace S4 := Nf.hid (S4.out.step hb)
    have S5 := Nf.hid h1
    clear h1 hb
    go_wp2_with fail
    refine (nfc_any K.out.fm S5.out HIC.out hnC.out).mono ?_
    rintro e W6 ⟨v6, rfl, h1, hb⟩
    rw [HCC.out] at h1
    clear S5
    replace K := Nf.hid (K.out.step hb)
    replace S2 := Nf.hid (S2.out.step hb)
    replace S4 := Nf.hid (S4.out.step hb)
    have S6 := Nf.hid h1
    clear h1 hb
    go_wp2_with fail
    refine (ints10_any _ _ _ S6.out (by have := hnC.out; omega) (fun z hz => ⟨(HIC.out z hz).1, (HIC.out z hz).2⟩)).mono ?_
    rintro e W7 ⟨v7, rfl, h1, hb⟩
    clear S6
    replace K := Nf.hid (K.out.step hb)
    replace S2 := Nf.hid (S2.out.step hb)
    replace S4 := Nf.hid (S4.out.step hb)
    have S7 := Nf.hid h1
    clear h1 hb
    go_wp2_with fail
    refine (same_any _ _ _ _ _ S7.out.sl S2.out.sl (by have := hnC.out; omega)).mono ?_
    rw [decide_eq_true rfl]
    rintro e W8 ⟨rfl, hb⟩
    clear S7
    replace K := Nf.hid (K.out.step hb)
    replace S2 := Nf.hid (S2.out.step hb)
    replace S4 := Nf.hid (S4.out.step hb)
    clear hb
    go_wp2_with fail
    refine (nfd_any K.out.fm K.out.l HZ.out (by have := hn.out; omega)).mono ?_
    rintro e W9 ⟨v9, rfl, h1, hb⟩
    replace K := Nf.hid (K.out.step hb)
    replace S2 := Nf.hid (S2.out.step hb)
    replace S4 := Nf.hid (S4.out.step hb)
    have S9 := Nf.hid h1
    clear h1 hb
    go_wp2_with fail
    refine (nfd_any K.out.fm S9.out HID.out hnD.out).mono ?_
    rintro e W10 ⟨v10, rfl, h1, hb⟩
    rw [HDD.out] at h1
    clear S9
    replace K := Nf.hid (K.out.step hb)
    replace S2 := Nf.hid (S2.out.step hb)
    replace S4 := Nf.hid (S4.out.step hb)
    have S10 := Nf.hid h1
    clear h1 hb
    go_wp2_with fail
    refine (ints10_any _ _ _ S10.out (by have := hnD.out; omega) (fun z hz => ⟨(HID.out z hz).1, (HID.out z hz).2⟩)).mono ?_
    rintro e W11 ⟨v11, rfl, h1, hb⟩
    clear S10
    replace K := Nf.hid (K.out.step hb)
    replace S2 := Nf.hid (S2.out.step hb)
    replace S4 := Nf.hid (S4.out.step hb)
    have S11 := Nf.hid h1
    clear h1 hb
    go_wp2_with fail
    refine (same_any _ _ _ _ _ S11.out.sl S4.out.sl (by have := hnD.out; omega)).mono ?_
    rw [decide_eq_true rfl]
    rintro e W12 ⟨rfl, hb⟩
    clear S11
    replace K := Nf.hid (K.out.step hb)
    replace S2 := Nf.hid (S2.out.step hb)
    replace S4 := Nf.hid (S4.out.step hb)
    clear hb
    go_wp2_with fail
    refine (nfd_any K.out.fm K.out.l HZ.out (by have := hn.out; omega)).mono ?_
    rintro e W13 ⟨v13, rfl, h1, hb⟩
    replace K := Nf.hid (K.out.step hb)
    replace S2 := Nf.hid (S2.out.step hb)
    replace S4 := Nf.hid (S4.out.step hb)
    have S13 := Nf.hid h1
    clear h1 hb
    go_wp2_with fail
    refine (nfc_any K.out.fm S13.out HID.out hnD.out).mono ?_
    rintro e W14 ⟨v14, rfl, h1, hb⟩
    rw [HCD.out] at h1
    clear S13
    replace K := Nf.hid (K.out.step hb)
    replace S2 := Nf.hid (S2.out.step hb)
    replace S4 := Nf.hid (S4.out.step hb)
    have S14 := Nf.hid h1
    clear h1 hb
    go_wp2_with fail
    refine (ints10_any _ _ _ S14.out (by have := hnC.out; omega) (fun z hz => ⟨(HIC.out z hz).1, (HIC.out z hz).2⟩)).mono ?_
    rintro e W15 ⟨v15, rfl, h1, hb⟩
    clear S14
    replace K := Nf.hid (K.out.step hb)
    replace S2 := Nf.hid (S2.out.step hb)
    replace S4 := Nf.hid (S4.out.step hb)
    have S15 := Nf.hid h1
    clear h1 hb
    go_wp2_with fail
    refine (same_any _ _ _ _ _ S15.out.sl S2.out.sl (by have := hnC.out; omega)).mono ?_
    rw [decide_eq_true rfl]
    rintro e W16 ⟨rfl, hb⟩
    clear S15
    replace K := Nf.hid (K.out.step hb)
    replace S2 := Nf.hid (S2.out.step hb)
    replace S4 := Nf.hid (S4.out.step hb)
    clear hb
    go_wp2_with fail
    refine (nfc_any K.out.fm K.out.l HZ.out (by have := hn.out; omega)).mono ?_
    rintro e W17 ⟨v17, rfl, h1, hb⟩
    replace K := Nf.hid (K.out.step hb)
    replace S2 := Nf.hid (S2.out.step hb)
    replace S4 := Nf.hid (S4.out.step hb)
    have S17 := Nf.hid h1
    clear h1 hb
    go_wp2_with fail
    refine (nfd_any K.out.fm S17.out HIC.out hnC.out).mono ?_
    rintro e W18 ⟨v18, rfl, h1, hb⟩
    rw [HDC.out] at h1
    clear S17
    replace K := Nf.hid (K.out.step hb)
    replace S2 := Nf.hid (S2.out.step hb)
    replace S4 := Nf.hid (S4.out.step hb)
    have S18 := Nf.hid h1
    clear h1 hb
    go_wp2_with fail
    refine (ints10_any _ _ _ S18.out (by have := hnD.out; omega) (fun z hz => ⟨(HID.out z hz).1, (HID.out z hz).2⟩)).mono ?_
    rintro e W19 ⟨v19, rfl, h1, hb⟩
    clear S18
    replace K := Nf.hid (K.out.step hb)
    replace S2 := Nf.hid (S2.out.step hb)
    replace S4 := Nf.hid (S4.out.step hb)
    have S19 := Nf.hid h1
    clear h1 hb
    go_wp2_with fail
    refine (same_any _ _ _ _ _ S19.out.sl S4.out.sl (by have := hnD.out; omega)).mono ?_
    rw [decide_eq_true rfl]
    rintro e W20 ⟨rfl, hb⟩
    clear S19
    replace K := Nf.hid (K.out.step hb)
    replace S2 := Nf.hid (S2.out.step hb)
    replace S4 := Nf.hid (S4.out.step hb)
    clear hb
    go_wp2_with fail
    refine (nfc_any K.out.fm K.out.l HZ.out (by have := hn.out; omega)).mono ?_
    rintro e W21 ⟨v21, rfl, h1, hb⟩
    replace K := Nf.hid (K.out.step hb)
    replace S2 := Nf.hid (S2.out.step hb)
    replace S4 := Nf.hid (S4.out.step hb)
    have S21 := Nf.hid h1
    clear h1 hb
    go_wp2_with fail
    refine (fsame_any K.out.fm K.out.l S21.out HZ.out HIC.out (by have := hn.out; omega) hnC.out).mono ?_
    rw [HDC.out, decide_eq_true rfl]
    rintro e Wx ⟨rfl, hb⟩
    replace K := Nf.hid (K.out.step hb)
    clear hb
    go_wp2_with fail
    refine (awake10_any K.out.fm).mono ?_
    rintro e Wy ⟨rfl, hb⟩
    replace K := Nf.hid (K.out.step hb)
    clear hb
    go_wp2_with fail
    go_ret
    exact ⟨rfl, K.out.ok.1⟩

set_option maxRecDepth 100000 in
theorem lifted (os : Os) (started : os.Started) (H : Type) (enc : TypeId × Value → H) :
    ReturnsInHanded {} Try.checked os 7 .any (Rows.nfcTwiceSpec.pre6 enc Try.prog Try.f7 Rows.nfcTwiceRow.domain false) (Rows.nfcTwiceSpec.post enc Try.prog Try.f7 false true false false) := by
  refine returnsInHanded_of_change (C := Try.checked) own started (by kernel_rfl) Try.func7
    (ChangeSpec.witness6 (enc := enc) (C := Try.checked) false ⟨#[], #[.slice none 0 0], []⟩ 8 (by kernel_rfl) (by kernel_rfl) (by kernel_rfl) (by kernel_rfl)) ?_
  intro W base args ds gs before hval0 hW hcnd _
  have hval : ∀ (j : Nat) t v, Try.f7.params[j]? = some t → args[j]? = some v → Value.okWide Try.prog W .any base t v := hval0
  have hW' := hW
  obtain ⟨p, q, hA0, hV, rfl, hfz, hnd⟩ := hW
  have hA : DataW.TrodAll enc Try.prog W 0 (fun _ => true) true Try.f7.params.toList args.toList ds p := hA0
  rw [Try.params7] at hA hval
  obtain ⟨v0, vs0, d0, ds0, p0, q0, hargs, rfl, rfl, h0, r0⟩ := trodAll_cons hA
  obtain ⟨rfl, rfl, rfl⟩ := trodAll_nil r0
  obtain rfl : args = #[v0] := by cases args; simp_all
  obtain ⟨rfl, rfl⟩ := trodVars_none hV
  obtain ⟨a0, len0, cap0, rfl⟩ := okWide_slice Try.underlying22 (hval 0 22 v0 rfl rfl)
  have k0 := h0
  have lt0 : ∀ x ∈ p0, x.block < W.heap.size := by obtain ⟨m, hm⟩ := k0; exact DataW.trod_lt m _ _ _ hm
  obtain ⟨z0, w0⟩ : ∃ zs, IsRow .i32 W a0 len0 cap0 zs := by
    obtain ⟨fuel, hf⟩ := h0
    rcases open_ints Try.underlying22 Try.underlying21 (by kernel_rfl) hf with ⟨hcs, _⟩ | ⟨x, l, c, zs, hcs, _, hl, hm, hz, _, hcell, hwz⟩
    · simp [Value.cells] at hcs
      obtain ⟨rfl, rfl, rfl⟩ := hcs
      exact ⟨[], .inl ⟨rfl, rfl, rfl, rfl⟩⟩
    · simp [Value.cells] at hcs
      obtain ⟨rfl, rfl, rfl⟩ := hcs
      exact ⟨zs, .inr ⟨_, rfl, hl, hm, by simpa using hz, hcell, hwz⟩⟩
  clear hA0 hval0
  refine (walk a0 len0 cap0 z0 W w0).mono fun e W' ⟨he, bel⟩ => ?_
  subst he
  exact ⟨_, rfl, _, _, _, [], _, [], hW', trodAll_mk1 (shut_bool Try.underlying4 _), (trodAll_cons_mk (Below.trod laidOut (by kernel_rfl) (of_decide_eq_true (by kernel_rfl)) k0 bel lt0) trodAll_mk0), rfl, bel.frame _, fun h => by cases h⟩

theorem over : Rows.nfcTwiceRow.holds Try.pinned (OpenSpec.ofChange Rows.nfcTwiceSpec) :=
  OpenClaim.holds_of_wide 7 Try.f7 rfl rfl rfl rfl rfl rfl rfl ⟨rfl, rfl, rfl, rfl, rfl⟩ rfl rfl rfl rfl rfl (by kernel_rfl) Try.func7 (by kernel_rfl)
    (of_decide_eq_true (by kernel_rfl)) (by unfold Func.isWrapper; first | (rw [if_pos (by decide +kernel)]; kernel_rfl) | (rw [if_neg (by decide +kernel)]; exact ⟨rfl, rfl⟩))
    (fun os started H enc _ => lifted os started H enc)

end Go.Proofs.Ytclcmkklonnalaa.nfcTwice
namespace Go.Proofs.Ytclcmkklonnalaa
theorem nfcTwice_holds : Rows.NfcTwiceSaid := nfcTwice.over
#print axioms nfcTwice_holds
end Go.Proofs.Ytclcmkklonnalaa
