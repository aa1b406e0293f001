/-
  For every slice l of runes the law NfcQuick returns true, and l reads behind the call as it read before. No condition.
-/
import Derived.Test.YtclcmkklonnalaaGreatRows
import Derived.Test.YtclcmkklonnalaaGreatNfc14x18
import Derived.WalkKit
import Derived.ProofKit
import Derived.OpenShut
import Derived.ShutString
import Derived.ChangeOld
import Derived.Below
namespace Go.Proofs.YtclcmkklonnalaaGreat.nfcQuick
open Go.ChangeShapes Go.WideShapes Go.ChangeAt Go.RowKit
open Go.ChangeMaps (open_string shut_string)
set_option linter.unusedVariables false

theorem own : ownKnob Tryz.prog.godebug = none := by kernel_rfl
theorem laidOut : laidOutB Tryz.prog = true := by kernel_rfl

/-- WHAT THE WALK IS TOLD OF A SLICE OF INTEGERS THAT CAME IN: it is nil; or it leads to a row of 'cap' cells, the numbers 'zs' (the first 'len' are its elements, the rest its spare room), each fitting its kind. -/
def IsRow (k : IntKind) (w : World) (a : Option Addr) (len cap : Nat) (zs : List Int) : Prop :=
  (a = none ∧ len = 0 ∧ cap = 0 ∧ zs = []) ∨
  ∃ x, a = some x ∧ len ≤ cap ∧ cap ≤ maxLen ∧ zs.length = cap ∧ (∀ i, i < zs.length → w.cell? (x.add i) = some (.int k (zs.getD i 0))) ∧ ∀ n ∈ zs, (Lit.int k n).wf = true

open Od Nf in
/-- What the law keeps: the former, and the slice. -/
structure TF (w : World) (f b p d u s : Nat) (va : Value) (zs : List Int) (W : World) : Prop where
  ok : Ok w.heap.size w W
  fm : Fm W f b p d u s
  l : Sl .i32 W va zs
open Od Nf in
theorem TF.step {w : World} {f b p d u s : Nat} {va : Value} {zs : List Int} {W W' : World} (h : TF w f b p d u s va zs W) (hb : Below W.heap.size W W') : TF w f b p d u s va zs W' := ⟨h.ok.step hb, h.fm.step hb, h.l.step hb⟩
open Od Nf in
set_option maxHeartbeats 8000000 in
set_option maxRecDepth 100000 in
theorem walk (a0 : Option Addr) (len0 cap0 : Nat) (z0 : List Int) (w : World) (w0 : IsRow .i32 w a0 len0 cap0 z0) :
    Calls Tryz.prog 3 #[.slice a0 len0 cap0] w fun e w' => e = .returned (.bool true) ∧ Below w.heap.size w w' := by
  obtain ⟨hlen, hS, hZ⟩ := row_sl w0
  have HZ : Hid (∀ y ∈ z0.take len0, Pr.I32 y) := fun y hy => ⟨(hZ y hy).1, (hZ y hy).2⟩
  have HS : Hid (Sl .i32 w (.slice a0 len0 cap0) (z0.take len0)) := ⟨a0, cap0, by rw [hlen], hS⟩
  have HSP := Nf.hid hS
  have HN := Nf.hid (former_any w)
  have hLen : Hid ((z0.take len0).length = len0) := hlen
  generalize z0.take len0 = zs at *
  clear w0 hS hZ hlen
  have HO := Nf.hid (Ok.start w)
  by_cases hl : 12 < len0
  · go_enter Tryz.func3, Tryz.ntmps3
    go_wp2_with fail
    refine HN.out.mono ?_
    rintro e w' ⟨f, b, p, d, u, s, rfl, hB, hb⟩
    have HB := Nf.hid hB
    replace HO := Nf.hid (HO.out.step hb)
    clear hB hb
    go_wp2_with fail
    refine (awake10_any HB.out).mono ?_
    rintro e w' ⟨rfl, hb⟩
    replace HO := Nf.hid (HO.out.step hb)
    clear hb
    go_wp2_with fail
    go_ret
    exact ⟨rfl, HO.out.1⟩
  · have hn : Hid (zs.length ≤ 12) := by show _ ≤ _; have := hLen.out; omega
    have HIC := Nf.hid (nfc_I32 zs HZ.out).1
    have hnC : Hid ((nfcP clsP zs).length ≤ 10000) := by show _ ≤ _; have h1 := (nfc_I32 zs HZ.out).2; have h2 := hn.out; omega
    have hQ : ∃ (Q : Int) (ow : Bool), ((Q = -1 ∧ ow = false) ∨ Q = 0 ∨ (Q = 1 ∧ ow = true)) ∧ Hid (quickP zs = Q ∧ decide (nfcP clsP zs = zs) = ow) := ⟨_, _, quick_cases zs, rfl, rfl⟩
    obtain ⟨Q, ow, hq, HQ⟩ := hQ
    go_enter Tryz.func3, Tryz.ntmps3
    go_wp2_with fail
    refine HN.out.mono ?_
    rintro e W0 ⟨f, b, p, d, u, s, rfl, hB, hb⟩
    have K : Hid (TF w f b p d u s (.slice a0 len0 cap0) zs W0) := ⟨HO.out.step hb, hB, HS.out.step hb⟩
    clear hB hb HO HS HN
    go_wp2_with fail
    refine (quick_any K.out.fm K.out.l HZ.out (by have := hn.out; omega)).mono ?_
    rw [HQ.out.1]
    rintro e W1 ⟨rfl, hb⟩
    replace K := Nf.hid (K.out.step hb)
    clear hb
    go_wp2_with fail
    refine (nfc_any K.out.fm K.out.l HZ.out (by have := hn.out; omega)).mono ?_
    rintro e W2 ⟨v2, rfl, h1, hb⟩
    replace K := Nf.hid (K.out.step hb)
    have SA := Nf.hid h1
    clear h1 hb
    go_wp2_with fail
    refine (ints10_any _ _ _ SA.out (by have := hnC.out; omega) (fun z hz => ⟨(HIC.out z hz).1, (HIC.out z hz).2⟩)).mono ?_
    rintro e W3 ⟨v3, rfl, h1, hb⟩
    clear SA
    replace K := Nf.hid (K.out.step hb)
    have SB := Nf.hid h1
    clear h1 hb
    go_wp2_with fail
    refine (ints10_any _ _ _ K.out.l (by have := hn.out; omega) (fun z hz => ⟨(HZ.out z hz).1, (HZ.out z hz).2⟩)).mono ?_
    rintro e W4 ⟨v4, rfl, h1, hb⟩
    replace K := Nf.hid (K.out.step hb)
    replace SB := Nf.hid (SB.out.step hb)
    have SC := Nf.hid h1
    clear h1 hb
    go_wp2_with fail
    refine (same_any _ _ _ _ _ SB.out.sl SC.out.sl (by have := hnC.out; omega)).mono ?_
    rw [HQ.out.2]
    rintro e W5 ⟨rfl, hb⟩
    clear SB
    clear SC
    replace K := Nf.hid (K.out.step hb)
    clear hb
    go_wp2_with fail
    refine (ints10_any _ _ _ K.out.l (by have := hn.out; omega) (fun z hz => ⟨(HZ.out z hz).1, (HZ.out z hz).2⟩)).mono ?_
    rintro e W6 ⟨v6, rfl, h1, hb⟩
    replace K := Nf.hid (K.out.step hb)
    have SD := Nf.hid h1
    clear h1 hb
    go_wp2_with fail
    refine (rquick_any SD.out (by have := hn.out; omega)).mono ?_
    rw [HQ.out.1]
    rintro e W7 ⟨rfl, hb⟩
    clear SD
    replace K := Nf.hid (K.out.step hb)
    clear hb
    clear HQ HIC hnC
    rcases hq with ⟨rfl, rfl⟩ | rfl | ⟨rfl, rfl⟩
    all_goals
      go_wp2_with fail
      go_loopg [48] len0 (fun gg vi wr => ∃ k : Nat, vi = .int .i64 k ∧ k ≤ len0 ∧ gg = len0 - k ∧ Hid (TF w f b p d u s (.slice a0 len0 cap0) zs wr))
      case atStart => exact ⟨0, rfl, Nat.zero_le _, rfl, K.out⟩
      case round =>
        obtain ⟨k, rfl, hk, hg, H⟩ := hrel
        have HG := Nf.hid hg
        clear hg K
        by_cases hlt : k < len0
        · have hlx : k < zs.length := by rw [hLen.out]; exact hlt
          obtain ⟨bb, off, rfl, hb, c1⟩ := HSP.out.at_ k hlx
          have d1 := (H.out.ok.1.cell (p := ⟨bb, off + k, none⟩) hb).trans c1
          have hI := HZ.out _ (List.getElem_mem hlx)
          clear c1
          generalize zs[k] = x at *
          have z1 : (k : Int) < (len0 : Int) := by omega
          have HI1 : Hid (∀ z ∈ [x], Pr.I32 z) := fun z hz => by simp at hz; subst hz; exact hI
          have hx1 := hI.1
          have hx2 := hI.2
          have hwx : IntKind.i64.wrap x = x := by rw [IntKind.wrap_i64]; omega
          have HSt := Nf.hid (stable_any H.out.fm hI)
          have HRn := Nf.hid (fun (W : World) => rnfc_any (zs := [x]) (sl1 .i64 W 3 x W.heap.size rfl) HI1.out (by simp))
          have hlC : Hid ((nfcP clsP [x]).length ≤ 1000000000) := Nat.le_trans (nfc_I32 [x] HI1.out).2 (by simp)
          clear hI
          go_wp2_with fail
          refine HSt.out.mono ?_
          rintro e U1 ⟨rfl, hb1⟩
          have K1 := Nf.hid (H.out.step hb1)
          clear hb1
          go_wp2_with fail
          refine (HRn.out U1).mono ?_
          rintro e U2 ⟨v2, rfl, h2, hb2⟩
          have K2 := Nf.hid ((K1.out.step ((Below.refl _ _).alloc (Nat.le_refl _) _)).step hb2)
          have S2 := Nf.hid h2
          clear h2 hb2
          have hb3 : Below U2.heap.size U2 (U2.alloc (.cells #[.int .i64 x] 3)) := (Below.refl _ _).alloc (Nat.le_refl _) _
          have HSm := Nf.hid (same_any v2 (.slice (some ⟨U2.heap.size, 0, none⟩) 1 1) _ [x] (U2.alloc (.cells #[.int .i64 x] 3)) (S2.out.step hb3).sl (sl1 .i64 U2 3 x _ rfl).sl hlC.out)
          have K3 := Nf.hid (K2.out.step hb3)
          clear hb3
          go_wp2_with fail
          refine HSm.out.mono ?_
          rintro e U3 ⟨rfl, hb4⟩
          have K4 := Nf.hid (K3.out.step hb4)
          clear hb4
          generalize decide (nfcP clsP [x] = [x]) = bq at *
          have hbq : (bq != bq) = false := by cases bq <;> rfl
          go_wp2_with fail
          go_roundg (len0 - (k + 1))
          case measure => rw [HG.out]; omega
          case rel => exact ⟨k + 1, by go_num, by omega, rfl, K4.out⟩
        · have z1 : ¬ (k : Int) < (len0 : Int) := by omega
          have HA := Nf.hid (awake10_any H.out.fm)
          go_wp2_with fail
          refine HA.out.mono ?_
          rintro e U1 ⟨rfl, hb1⟩
          have K1 := Nf.hid (H.out.step hb1)
          clear hb1
          go_wp2_with fail
          go_ret
          exact ⟨rfl, K1.out.ok.1⟩

set_option maxRecDepth 100000 in
theorem lifted (os : Os) (started : os.Started) (H : Type) (enc : TypeId × Value → H) :
    ReturnsInHanded {} Tryz.checked os 3 .any (Rows.nfcQuickSpec.pre6 enc Tryz.prog Tryz.f3 Rows.nfcQuickRow.domain false) (Rows.nfcQuickSpec.post enc Tryz.prog Tryz.f3 false true false false) := by
  refine returnsInHanded_of_change (C := Tryz.checked) own started (by kernel_rfl) Tryz.func3
    (ChangeSpec.witness6 (enc := enc) (C := Tryz.checked) false ⟨#[], #[.slice none 0 0], []⟩ 8 (by kernel_rfl) (by kernel_rfl) (by kernel_rfl) (by kernel_rfl)) ?_
  intro W base args ds gs before hval0 hW hcnd _
  have hval : ∀ (j : Nat) t v, Tryz.f3.params[j]? = some t → args[j]? = some v → Value.okWide Tryz.prog W .any base t v := hval0
  have hW' := hW
  obtain ⟨p, q, hA0, hV, rfl, hfz, hnd⟩ := hW
  have hA : DataW.TrodAll enc Tryz.prog W 0 (fun _ => true) true Tryz.f3.params.toList args.toList ds p := hA0
  rw [Tryz.params3] at hA hval
  obtain ⟨v0, vs0, d0, ds0, p0, q0, hargs, rfl, rfl, h0, r0⟩ := trodAll_cons hA
  obtain ⟨rfl, rfl, rfl⟩ := trodAll_nil r0
  obtain rfl : args = #[v0] := by cases args; simp_all
  obtain ⟨rfl, rfl⟩ := trodVars_none hV
  obtain ⟨a0, len0, cap0, rfl⟩ := okWide_slice Tryz.underlying22 (hval 0 22 v0 rfl rfl)
  have k0 := h0
  have lt0 : ∀ x ∈ p0, x.block < W.heap.size := by obtain ⟨m, hm⟩ := k0; exact DataW.trod_lt m _ _ _ hm
  obtain ⟨z0, w0⟩ : ∃ zs, IsRow .i32 W a0 len0 cap0 zs := by
    obtain ⟨fuel, hf⟩ := h0
    rcases open_ints Tryz.underlying22 Tryz.underlying21 (by kernel_rfl) hf with ⟨hcs, _⟩ | ⟨x, l, c, zs, hcs, _, hl, hm, hz, _, hcell, hwz⟩
    · simp [Value.cells] at hcs
      obtain ⟨rfl, rfl, rfl⟩ := hcs
      exact ⟨[], .inl ⟨rfl, rfl, rfl, rfl⟩⟩
    · simp [Value.cells] at hcs
      obtain ⟨rfl, rfl, rfl⟩ := hcs
      exact ⟨zs, .inr ⟨_, rfl, hl, hm, by simpa using hz, hcell, hwz⟩⟩
  clear hA0 hval0
  refine (walk a0 len0 cap0 z0 W w0).mono fun e W' ⟨he, bel⟩ => ?_
  subst he
  exact ⟨_, rfl, _, _, _, [], _, [], hW', trodAll_mk1 (shut_bool Tryz.underlying4 _), (trodAll_cons_mk (Below.trod laidOut (by kernel_rfl) (of_decide_eq_true (by kernel_rfl)) k0 bel lt0) trodAll_mk0), rfl, bel.frame _, fun h => by cases h⟩

theorem over : Rows.nfcQuickRow.holds Tryz.pinned (OpenSpec.ofChange Rows.nfcQuickSpec) :=
  OpenClaim.holds_of_wide 3 Tryz.f3 rfl rfl rfl rfl rfl rfl rfl ⟨rfl, rfl, rfl, rfl, rfl⟩ rfl rfl rfl rfl rfl (by kernel_rfl) Tryz.func3 (by kernel_rfl)
    (of_decide_eq_true (by kernel_rfl)) (by unfold Func.isWrapper; first | (rw [if_pos (by decide +kernel)]; kernel_rfl) | (rw [if_neg (by decide +kernel)]; exact ⟨rfl, rfl⟩))
    (fun os started H enc _ => lifted os started H enc)

end Go.Proofs.YtclcmkklonnalaaGreat.nfcQuick
namespace Go.Proofs.YtclcmkklonnalaaGreat
theorem nfcQuick_holds : Rows.NfcQuickSaid := nfcQuick.over
#print axioms nfcQuick_holds
end Go.Proofs.YtclcmkklonnalaaGreat
