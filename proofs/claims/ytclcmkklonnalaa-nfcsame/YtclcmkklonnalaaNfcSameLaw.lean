/-
  For every two slices a and b of runes the law NfcSame returns true, and both read behind the call as they read before. No condition.
-/
import Derived.Test.YtclcmkklonnalaaRows
import Derived.Test.YtclcmkklonnalaaNfc10x13
import Derived.WalkKit
import Derived.ProofKit
import Derived.OpenShut
import Derived.ShutString
import Derived.ChangeOld
import Derived.Below
namespace Go.Proofs.Ytclcmkklonnalaa.nfcSame
open Go.ChangeShapes Go.WideShapes Go.ChangeAt Go.RowKit
open Go.ChangeMaps (open_string shut_string)
set_option linter.unusedVariables false

theorem own : ownKnob Try.prog.godebug = none := by kernel_rfl
theorem laidOut : laidOutB Try.prog = true := by kernel_rfl

/-- WHAT THE WALK IS TOLD OF A SLICE OF INTEGERS THAT CAME IN: it is nil; or it leads to a row of 'cap' cells, the numbers 'zs' (the first 'len' are its elements, the rest its spare room), each fitting its kind. -/
def IsRow (k : IntKind) (w : World) (a : Option Addr) (len cap : Nat) (zs : List Int) : Prop :=
  (a = none ∧ len = 0 ∧ cap = 0 ∧ zs = []) ∨
  ∃ x, a = some x ∧ len ≤ cap ∧ cap ≤ maxLen ∧ zs.length = cap ∧ (∀ i, i < zs.length → w.cell? (x.add i) = some (.int k (zs.getD i 0))) ∧ ∀ n ∈ zs, (Lit.int k n).wf = true

open Od Nf in
/-- What the law keeps: the former, and both slices. -/
structure TS (w : World) (f b p d u s : Nat) (va vb : Value) (zs ys : List Int) (W : World) : Prop where
  ok : Ok w.heap.size w W
  fm : Fm W f b p d u s
  l : Sl .i32 W va zs
  r : Sl .i32 W vb ys
open Od Nf in
theorem TS.step {w : World} {f b p d u s : Nat} {va vb : Value} {zs ys : List Int} {W W' : World} (h : TS w f b p d u s va vb zs ys W) (hb : Below W.heap.size W W') : TS w f b p d u s va vb zs ys W' := ⟨h.ok.step hb, h.fm.step hb, h.l.step hb, h.r.step hb⟩
open Od Nf in
set_option maxHeartbeats 8000000 in
set_option maxRecDepth 100000 in
theorem walk (a0 : Option Addr) (len0 cap0 : Nat) (z0 : List Int) (a1 : Option Addr) (len1 cap1 : Nat) (z1 : List Int) (w : World) (w0 : IsRow .i32 w a0 len0 cap0 z0) (w1 : IsRow .i32 w a1 len1 cap1 z1) :
    Calls Try.prog 8 #[.slice a0 len0 cap0, .slice a1 len1 cap1] w fun e w' => e = .returned (.bool true) ∧ Below w.heap.size w w' := by
  obtain ⟨hlen, hS, hZ⟩ := row_sl w0
  obtain ⟨hlen', hS', hZ'⟩ := row_sl w1
  have HZ : Hid (∀ y ∈ z0.take len0, Pr.I32 y) := fun y hy => ⟨(hZ y hy).1, (hZ y hy).2⟩
  have HZ' : Hid (∀ y ∈ z1.take len1, Pr.I32 y) := fun y hy => ⟨(hZ' y hy).1, (hZ' y hy).2⟩
  have HS : Hid (Sl .i32 w (.slice a0 len0 cap0) (z0.take len0)) := ⟨a0, cap0, by rw [hlen], hS⟩
  have HS' : Hid (Sl .i32 w (.slice a1 len1 cap1) (z1.take len1)) := ⟨a1, cap1, by rw [hlen'], hS'⟩
  have HN := Nf.hid (former_any w)
  have hLen : Hid ((z0.take len0).length = len0) := hlen
  have hLen' : Hid ((z1.take len1).length = len1) := hlen'
  generalize z0.take len0 = zs at *
  generalize z1.take len1 = ys at *
  clear w0 hS hZ hlen w1 hS' hZ' hlen'
  have HO := Nf.hid (Ok.start w)
  by_cases hl : 12 < len0
  · go_enter Try.func8, Try.ntmps8
    go_wp2_with fail
    refine HN.out.mono ?_
    rintro e w' ⟨f, b, p, d, u, s, rfl, hB, hb⟩
    have HB := Nf.hid hB
    replace HO := Nf.hid (HO.out.step hb)
    clear hB hb
    go_wp2_with fail
    refine (awake10_any HB.out).mono ?_
    rintro e w' ⟨rfl, hb⟩
    replace HO := Nf.hid (HO.out.step hb)
    clear hb
    go_wp2_with fail
    go_ret
    exact ⟨rfl, HO.out.1⟩
  · by_cases hl2 : 12 < len1
    · go_enter Try.func8, Try.ntmps8
      go_wp2_with fail
      refine HN.out.mono ?_
      rintro e w' ⟨f, b, p, d, u, s, rfl, hB, hb⟩
      have HB := Nf.hid hB
      replace HO := Nf.hid (HO.out.step hb)
      clear hB hb
      go_wp2_with fail
      refine (awake10_any HB.out).mono ?_
      rintro e w' ⟨rfl, hb⟩
      replace HO := Nf.hid (HO.out.step hb)
      clear hb
      go_wp2_with fail
      go_ret
      exact ⟨rfl, HO.out.1⟩
    · go_enter Try.func8, Try.ntmps8
      have hn : Hid (zs.length ≤ 12) := by show _ ≤ _; have := hLen.out; omega
      have hn' : Hid (ys.length ≤ 12) := by show _ ≤ _; have := hLen'.out; omega
      have HIC := Nf.hid (nfc_I32 zs HZ.out).1
      have HIC' := Nf.hid (nfc_I32 ys HZ'.out).1
      have hnD : Hid ((nfdP clsP zs).length ≤ 10000) := by show _ ≤ _; have h1 := nfd_len zs; have h2 := hn.out; omega
      have hnC : Hid ((nfcP clsP zs).length ≤ 10000) := by show _ ≤ _; have h1 := (nfc_I32 zs HZ.out).2; have h2 := hn.out; omega
      have hnC' : Hid ((nfcP clsP ys).length ≤ 10000) := by show _ ≤ _; have h1 := (nfc_I32 ys HZ'.out).2; have h2 := hn'.out; omega
      have HQ : Hid (decide (nfcP clsP zs = nfcP clsP ys) = decide (nfdP clsP zs = nfdP clsP ys)) := decide_eq_decide.2 (nfc_same clsP (fun x => (cls_bd x).1) zs ys).symm
      go_wp2_with fail
      refine HN.out.mono ?_
      rintro e W0 ⟨f, b, p, d, u, s, rfl, hB, hb⟩
      have K : Hid (TS w f b p d u s (.slice a0 len0 cap0) (.slice a1 len1 cap1) zs ys W0) := ⟨HO.out.step hb, hB, HS.out.step hb, HS'.out.step hb⟩
      clear hB hb HO HS HS' HN
      go_wp2_with fail
      refine (ints10_any _ _ _ K.out.l (by have := hn.out; omega) (fun z hz => ⟨(HZ.out z hz).1, (HZ.out z hz).2⟩)).mono ?_
      rintro e W1 ⟨v1, rfl, h1, hb⟩
      replace K := Nf.hid (K.out.step hb)
      have SA := Nf.hid h1
      clear h1 hb
      go_wp2_with fail
      refine (rnfd_any SA.out (by have := hn.out; omega)).mono ?_
      rintro e W2 ⟨v2, rfl, h1, hb⟩
      clear SA
      replace K := Nf.hid (K.out.step hb)
      have SB := Nf.hid h1
      clear h1 hb
      go_wp2_with fail
      refine (ints10_any _ _ _ K.out.r (by have := hn'.out; omega) (fun z hz => ⟨(HZ'.out z hz).1, (HZ'.out z hz).2⟩)).mono ?_
      rintro e W3 ⟨v3, rfl, h1, hb⟩
      replace K := Nf.hid (K.out.step hb)
      replace SB := Nf.hid (SB.out.step hb)
      have SC := Nf.hid h1
      clear h1 hb
      go_wp2_with fail
      refine (rnfd_any SC.out (by have := hn'.out; omega)).mono ?_
      rintro e W4 ⟨v4, rfl, h1, hb⟩
      clear SC
      replace K := Nf.hid (K.out.step hb)
      replace SB := Nf.hid (SB.out.step hb)
      have SD := Nf.hid h1
      clear h1 hb
      go_wp2_with fail
      refine (same_any _ _ _ _ _ SB.out.sl SD.out.sl (by have := hnD.out; omega)).mono ?_
      rintro e W5 ⟨rfl, hb⟩
      clear SB
      clear SD
      replace K := Nf.hid (K.out.step hb)
      clear hb
      go_wp2_with fail
      refine (fsame_any K.out.fm K.out.l K.out.r HZ.out HZ'.out (by have := hn.out; omega) (by have := hn'.out; omega)).mono ?_
      rintro e W6 ⟨rfl, hb⟩
      replace K := Nf.hid (K.out.step hb)
      clear hb
      generalize hq : decide (nfdP clsP zs = nfdP clsP ys) = q at *
      clear hq
      cases q
      · go_wp2_with fail
        refine (nfc_any K.out.fm K.out.l HZ.out (by have := hn.out; omega)).mono ?_
        rintro e W7 ⟨v7, rfl, h1, hb⟩
        replace K := Nf.hid (K.out.step hb)
        have SE := Nf.hid h1
        clear h1 hb
        go_wp2_with fail
        refine (ints10_any _ _ _ SE.out (by have := hnC.out; omega) (fun z hz => ⟨(HIC.out z hz).1, (HIC.out z hz).2⟩)).mono ?_
        rintro e W8 ⟨v8, rfl, h1, hb⟩
        clear SE
        replace K := Nf.hid (K.out.step hb)
        have SF := Nf.hid h1
        clear h1 hb
        go_wp2_with fail
        refine (nfc_any K.out.fm K.out.r HZ'.out (by have := hn'.out; omega)).mono ?_
        rintro e W9 ⟨v9, rfl, h1, hb⟩
        replace K := Nf.hid (K.out.step hb)
        replace SF := Nf.hid (SF.out.step hb)
        have SG := Nf.hid h1
        clear h1 hb
        go_wp2_with fail
        refine (ints10_any _ _ _ SG.out (by have := hnC'.out; omega) (fun z hz => ⟨(HIC'.out z hz).1, (HIC'.out z hz).2⟩)).mono ?_
        rintro e W10 ⟨v10, rfl, h1, hb⟩
        clear SG
        replace K := Nf.hid (K.out.step hb)
        replace SF := Nf.hid (SF.out.step hb)
        have SH := Nf.hid h1
        clear h1 hb
        go_wp2_with fail
        refine (same_any _ _ _ _ _ SF.out.sl SH.out.sl (by have := hnC.out; omega)).mono ?_
        rw [HQ.out]
        rintro e W11 ⟨rfl, hb⟩
        clear SF
        clear SH
        replace K := Nf.hid (K.out.step hb)
        clear hb
        go_wp2_with fail
        refine (awake10_any K.out.fm).mono ?_
        rintro e W12 ⟨rfl, hb⟩
        replace K := Nf.hid (K.out.step hb)
        clear hb
        go_wp2_with fail
        go_ret
        exact ⟨rfl, K.out.ok.1⟩
      · go_wp2_with fail
        refine (nfc_any K.out.fm K.out.l HZ.out (by have := hn.out; omega)).mono ?_
        rintro e W7 ⟨v7, rfl, h1, hb⟩
        replace K := Nf.hid (K.out.step hb)
        have SE := Nf.hid h1
        clear h1 hb
        go_wp2_with fail
        refine (ints10_any _ _ _ SE.out (by have := hnC.out; omega) (fun z hz => ⟨(HIC.out z hz).1, (HIC.out z hz).2⟩)).mono ?_
        rintro e W8 ⟨v8, rfl, h1, hb⟩
        clear SE
        replace K := Nf.hid (K.out.step hb)
        have SF := Nf.hid h1
        clear h1 hb
        go_wp2_with fail
        refine (nfc_any K.out.fm K.out.r HZ'.out (by have := hn'.out; omega)).mono ?_
        rintro e W9 ⟨v9, rfl, h1, hb⟩
        replace K := Nf.hid (K.out.step hb)
        replace SF := Nf.hid (SF.out.step hb)
        have SG := Nf.hid h1
        clear h1 hb
        go_wp2_with fail
        refine (ints10_any _ _ _ SG.out (by have := hnC'.out; omega) (fun z hz => ⟨(HIC'.out z hz).1, (HIC'.out z hz).2⟩)).mono ?_
        rintro e W10 ⟨v10, rfl, h1, hb⟩
        clear SG
        replace K := Nf.hid (K.out.step hb)
        replace SF := Nf.hid (SF.out.step hb)
        have SH := Nf.hid h1
        clear h1 hb
        go_wp2_with fail
        refine (same_any _ _ _ _ _ SF.out.sl SH.out.sl (by have := hnC.out; omega)).mono ?_
        rw [HQ.out]
        rintro e W11 ⟨rfl, hb⟩
        clear SF
        clear SH
        replace K := Nf.hid (K.out.step hb)
        clear hb
        go_wp2_with fail
        refine (awake10_any K.out.fm).mono ?_
        rintro e W12 ⟨rfl, hb⟩
        replace K := Nf.hid (K.out.step hb)
        clear hb
        go_wp2_with fail
        go_ret
        exact ⟨rfl, K.out.ok.1⟩

set_option maxRecDepth 100000 in
theorem lifted (os : Os) (started : os.Started) (H : Type) (enc : TypeId × Value → H) :
    ReturnsInHanded {} Try.checked os 8 .any (Rows.nfcSameSpec.pre6 enc Try.prog Try.f8 Rows.nfcSameRow.domain false) (Rows.nfcSameSpec.post enc Try.prog Try.f8 false true false false) := by
  refine returnsInHanded_of_change (C := Try.checked) own started (by kernel_rfl) Try.func8
    (ChangeSpec.witness6 (enc := enc) (C := Try.checked) false ⟨#[], #[.slice none 0 0, .slice none 0 0], []⟩ 8 (by kernel_rfl) (by kernel_rfl) (by kernel_rfl) (by kernel_rfl)) ?_
  intro W base args ds gs before hval0 hW hcnd _
  have hval : ∀ (j : Nat) t v, Try.f8.params[j]? = some t → args[j]? = some v → Value.okWide Try.prog W .any base t v := hval0
  have hW' := hW
  obtain ⟨p, q, hA0, hV, rfl, hfz, hnd⟩ := hW
  have hA : DataW.TrodAll enc Try.prog W 0 (fun _ => true) true Try.f8.params.toList args.toList ds p := hA0
  rw [Try.params8] at hA hval
  obtain ⟨v0, vs0, d0, ds0, p0, q0, hargs, rfl, rfl, h0, r0⟩ := trodAll_cons hA
  obtain ⟨v1, vs1, d1, ds1, p1, q1, rfl, rfl, rfl, h1, r1⟩ := trodAll_cons r0
  obtain ⟨rfl, rfl, rfl⟩ := trodAll_nil r1
  obtain rfl : args = #[v0, v1] := by cases args; simp_all
  obtain ⟨rfl, rfl⟩ := trodVars_none hV
  obtain ⟨a0, len0, cap0, rfl⟩ := okWide_slice Try.underlying22 (hval 0 22 v0 rfl rfl)
  have k0 := h0
  have lt0 : ∀ x ∈ p0, x.block < W.heap.size := by obtain ⟨m, hm⟩ := k0; exact DataW.trod_lt m _ _ _ hm
  obtain ⟨z0, w0⟩ : ∃ zs, IsRow .i32 W a0 len0 cap0 zs := by
    obtain ⟨fuel, hf⟩ := h0
    rcases open_ints Try.underlying22 Try.underlying21 (by kernel_rfl) hf with ⟨hcs, _⟩ | ⟨x, l, c, zs, hcs, _, hl, hm, hz, _, hcell, hwz⟩
    · simp [Value.cells] at hcs
      obtain ⟨rfl, rfl, rfl⟩ := hcs
      exact ⟨[], .inl ⟨rfl, rfl, rfl, rfl⟩⟩
    · simp [Value.cells] at hcs
      obtain ⟨rfl, rfl, rfl⟩ := hcs
      exact ⟨zs, .inr ⟨_, rfl, hl, hm, by simpa using hz, hcell, hwz⟩⟩
  obtain ⟨a1, len1, cap1, rfl⟩ := okWide_slice Try.underlying22 (hval 1 22 v1 rfl rfl)
  have k1 := h1
  have lt1 : ∀ x ∈ p1, x.block < W.heap.size := by obtain ⟨m, hm⟩ := k1; exact DataW.trod_lt m _ _ _ hm
  obtain ⟨z1, w1⟩ : ∃ zs, IsRow .i32 W a1 len1 cap1 zs := by
    obtain ⟨fuel, hf⟩ := h1
    rcases open_ints Try.underlying22 Try.underlying21 (by kernel_rfl) hf with ⟨hcs, _⟩ | ⟨x, l, c, zs, hcs, _, hl, hm, hz, _, hcell, hwz⟩
    · simp [Value.cells] at hcs
      obtain ⟨rfl, rfl, rfl⟩ := hcs
      exact ⟨[], .inl ⟨rfl, rfl, rfl, rfl⟩⟩
    · simp [Value.cells] at hcs
      obtain ⟨rfl, rfl, rfl⟩ := hcs
      exact ⟨zs, .inr ⟨_, rfl, hl, hm, by simpa using hz, hcell, hwz⟩⟩
  clear hA0 hval0
  refine (walk a0 len0 cap0 z0 a1 len1 cap1 z1 W w0 w1).mono fun e W' ⟨he, bel⟩ => ?_
  subst he
  exact ⟨_, rfl, _, _, _, [], _, [], hW', trodAll_mk1 (shut_bool Try.underlying4 _), (trodAll_cons_mk (Below.trod laidOut (by kernel_rfl) (of_decide_eq_true (by kernel_rfl)) k0 bel lt0) (trodAll_cons_mk (Below.trod laidOut (by kernel_rfl) (of_decide_eq_true (by kernel_rfl)) k1 bel lt1) trodAll_mk0)), rfl, bel.frame _, fun h => by cases h⟩

theorem over : Rows.nfcSameRow.holds Try.pinned (OpenSpec.ofChange Rows.nfcSameSpec) :=
  OpenClaim.holds_of_wide 8 Try.f8 rfl rfl rfl rfl rfl rfl rfl ⟨rfl, rfl, rfl, rfl, rfl⟩ rfl rfl rfl rfl rfl (by kernel_rfl) Try.func8 (by kernel_rfl)
    (of_decide_eq_true (by kernel_rfl)) (by unfold Func.isWrapper; first | (rw [if_pos (by decide +kernel)]; kernel_rfl) | (rw [if_neg (by decide +kernel)]; exact ⟨rfl, rfl⟩))
    (fun os started H enc _ => lifted os started H enc)

end Go.Proofs.Ytclcmkklonnalaa.nfcSame
namespace Go.Proofs.Ytclcmkklonnalaa
theorem nfcSame_holds : Rows.NfcSameSaid := nfcSame.over
#print axioms nfcSame_holds
end Go.Proofs.Ytclcmkklonnalaa
