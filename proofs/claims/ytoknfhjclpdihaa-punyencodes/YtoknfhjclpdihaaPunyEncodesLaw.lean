/-
  For every slice l of runes the law PunyEncodes returns true, and l reads behind the call as it read before. No condition.
-/
import Derived.Test.YtoknfhjclpdihaaRows
import Derived.Test.YtoknfhjclpdihaaPu30
import Derived.WalkKit
import Derived.ProofKit
import Derived.OpenShut
import Derived.ShutString
import Derived.ChangeOld
import Derived.Below
namespace Go.Proofs.Ytoknfhjclpdihaa.punyEncodes
open Go.ChangeShapes Go.WideShapes Go.ChangeAt Go.RowKit
open Go.ChangeMaps (open_string shut_string)
set_option linter.unusedVariables false

theorem own : ownKnob Try.prog.godebug = none := by kernel_rfl
theorem laidOut : laidOutB Try.prog = true := by kernel_rfl

/-- WHAT THE WALK IS TOLD OF A SLICE OF INTEGERS THAT CAME IN: it is nil; or it leads to a row of 'cap' cells, the numbers 'zs' (the first 'len' are its elements, the rest its spare room), each fitting its kind. -/
def IsRow (k : IntKind) (w : World) (a : Option Addr) (len cap : Nat) (zs : List Int) : Prop :=
  (a = none ∧ len = 0 ∧ cap = 0 ∧ zs = []) ∨
  ∃ x, a = some x ∧ len ≤ cap ∧ cap ≤ maxLen ∧ zs.length = cap ∧ (∀ i, i < zs.length → w.cell? (x.add i) = some (.int k (zs.getD i 0))) ∧ ∀ n ∈ zs, (Lit.int k n).wf = true

open Pu in
set_option maxHeartbeats 8000000 in
set_option maxRecDepth 100000 in
theorem walk (a0 : Option Addr) (len0 cap0 : Nat) (z0 : List Int) (w : World) (w0 : IsRow .i32 w a0 len0 cap0 z0) :
    Calls Try.prog 3 #[.slice a0 len0 cap0] w fun e w' => e = .returned (.bool true) ∧ Below w.heap.size w w' := by
  obtain ⟨hlen, hS, hZ⟩ := row_sl w0
  have HZ : Hid (∀ y ∈ z0.take len0, -2147483648 ≤ y ∧ y ≤ 2147483647) := hZ
  have HS : Hid (Od.Sl .i32 w (.slice a0 len0 cap0) (z0.take len0)) := ⟨a0, cap0, by rw [hlen], hS⟩
  have hLen : Hid ((z0.take len0).length = len0) := hlen
  generalize z0.take len0 = zs at *
  clear w0 hS hZ hlen
  have HO := hid (Ok.start w)
  have HAw := hid awake11_any
  by_cases hl : 40 < len0
  · go_enter Try.func3, Try.ntmps3
    go_wp2_with fail
    refine (HAw.out _).mono ?_
    rintro e w' ⟨rfl, hb⟩
    replace HO := hid (HO.out.step hb)
    clear hb
    go_wp2_with fail
    go_ret
    exact ⟨rfl, HO.out.1⟩
  · have hn : Hid (zs.length ≤ 40) := by show _ ≤ _; have := hLen.out; omega
    by_cases hbad : zs.any byB = true
    · have HE := hid (enc_bad HS.out (by have := hn.out; omega) hbad)
      have HBad := hid hbad
      clear hbad
      go_enter Try.func3, Try.ntmps3
      go_wp2_with fail
      refine HE.out.mono ?_
      rintro e W1 ⟨rfl, hb⟩
      replace HO := hid (HO.out.step hb)
      replace HS := hid (HS.out.step hb)
      clear hb HE
      go_wp2_with fail
      refine (Od.ints11_any _ _ _ HS.out (by have := hn.out; omega) HZ.out).mono ?_
      rintro e W2 ⟨v2, rfl, h1, hb⟩
      have SA := hid h1
      replace HO := hid (HO.out.step hb)
      clear h1 hb
      go_wp2_with fail
      refine (renc_bad SA.out (by have := hn.out; omega) HBad.out).mono ?_
      rintro e W3 ⟨rfl, hb⟩
      replace HO := hid (HO.out.step hb)
      clear hb
      go_wp2_with fail
      refine (HAw.out _).mono ?_
      rintro e w' ⟨rfl, hb⟩
      replace HO := hid (HO.out.step hb)
      clear hb
      go_wp2_with fail
      go_ret
      exact ⟨rfl, HO.out.1⟩
    · have hz := any_no (Bool.eq_false_iff.2 hbad)
      have HE := hid (enc_ok HS.out (by have := hn.out; omega) hz (fun x hx => by have := enc_mem (by have := hn.out; omega) hz x hx; omega))
      have HRE := hid (fun (W : World) (v : Value) (h : Od.Sn .i64 W v zs) => renc_ok h (by have := hn.out; omega) hz)
      have HD := hid (fun W => dec_enc hn.out hz W)
      have HM := hid (fun k h => enc_byte hn.out hz k h)
      have hsz : (byt (encP zs)).size ≤ 1000 := by rw [byt_size]; have := enc_len hn.out hz; omega
      clear hbad hz
      generalize byt (encP zs) = S at *
      go_enter Try.func3, Try.ntmps3
      go_wp2_with fail
      refine HE.out.mono ?_
      rintro e W1 ⟨rfl, hb⟩
      replace HO := hid (HO.out.step hb)
      replace HS := hid (HS.out.step hb)
      clear hb HE
      go_wp2_with fail
      refine (Od.ints11_any _ _ _ HS.out (by have := hn.out; omega) HZ.out).mono ?_
      rintro e W2 ⟨v2, rfl, h1, hb⟩
      have SA := hid h1
      replace HO := hid (HO.out.step hb)
      replace HS := hid (HS.out.step hb)
      clear h1 hb
      go_wp2_with fail
      refine (HRE.out _ _ SA.out).mono ?_
      rintro e W3 ⟨rfl, hb⟩
      replace HO := hid (HO.out.step hb)
      replace HS := hid (HS.out.step hb)
      clear hb SA HRE
      go_wp2_with fail
      refine (HD.out _).mono ?_
      rintro e W4 ⟨v4, rfl, h1, hb⟩
      have SB := hid h1
      replace HO := hid (HO.out.step hb)
      replace HS := hid (HS.out.step hb)
      clear h1 hb HD
      go_wp2_with fail
      go_loop [9] (fun vi => ∃ k : Nat, k ≤ S.size ∧ vi = .int .i64 k) (fun vi => S.size - (intOf vi).toNat)
      case atStart => exact ⟨0, Nat.zero_le _, rfl⟩
      case round =>
        obtain ⟨k, hk, rfl⟩ := hrel
        by_cases hlt : k < S.size
        · have z1 : (k : Int) < (S.size : Int) := by omega
          have hx := HM.out k hlt
          have hx0 : ¬ 127 < (S[k].toNat : Int) := by omega
          go_wp2_with fail
          go_round
          case rel => exact ⟨k + 1, hlt, by go_num⟩
          case measure => (simp [intOf]) <;> omega
        · have z1 : ¬ (k : Int) < (S.size : Int) := by omega
          go_wp2_with fail
          refine (Od.ints11_any _ _ _ SB.out (by have := hn.out; omega) HZ.out).mono ?_
          rintro e W5 ⟨v5, rfl, h1, hb⟩
          have SC := hid h1
          replace HO := hid (HO.out.step hb)
          replace HS := hid (HS.out.step hb)
          clear h1 hb SB
          go_wp2_with fail
          refine (Od.ints11_any _ _ _ HS.out (by have := hn.out; omega) HZ.out).mono ?_
          rintro e W6 ⟨v6, rfl, h1, hb⟩
          have SD := hid h1
          replace SC := hid (SC.out.step hb)
          replace HO := hid (HO.out.step hb)
          clear h1 hb HS
          go_wp2_with fail
          refine (Od.same_any _ _ _ _ _ SC.out.sl SD.out.sl (by have := hn.out; omega)).mono ?_
          rw [decide_eq_true (rfl : zs = zs)]
          rintro e W7 ⟨rfl, hb⟩
          replace HO := hid (HO.out.step hb)
          clear hb SC SD
          go_wp2_with fail
          refine (HAw.out _).mono ?_
          rintro e w' ⟨rfl, hb⟩
          replace HO := hid (HO.out.step hb)
          clear hb
          go_wp2_with fail
          go_ret
          exact ⟨rfl, HO.out.1⟩

set_option maxRecDepth 100000 in
theorem lifted (os : Os) (started : os.Started) (H : Type) (enc : TypeId × Value → H) :
    ReturnsInHanded {} Try.checked os 3 .any (Rows.punyEncodesSpec.pre6 enc Try.prog Try.f3 Rows.punyEncodesRow.domain false) (Rows.punyEncodesSpec.post enc Try.prog Try.f3 false true false false) := by
  refine returnsInHanded_of_change (C := Try.checked) own started (by kernel_rfl) Try.func3
    (ChangeSpec.witness6 (enc := enc) (C := Try.checked) false ⟨#[], #[.slice none 0 0], []⟩ 8 (by kernel_rfl) (by kernel_rfl) (by kernel_rfl) (by kernel_rfl)) ?_
  intro W base args ds gs before hval0 hW hcnd _
  have hval : ∀ (j : Nat) t v, Try.f3.params[j]? = some t → args[j]? = some v → Value.okWide Try.prog W .any base t v := hval0
  have hW' := hW
  obtain ⟨p, q, hA0, hV, rfl, hfz, hnd⟩ := hW
  have hA : DataW.TrodAll enc Try.prog W 0 (fun _ => true) true Try.f3.params.toList args.toList ds p := hA0
  rw [Try.params3] at hA hval
  obtain ⟨v0, vs0, d0, ds0, p0, q0, hargs, rfl, rfl, h0, r0⟩ := trodAll_cons hA
  obtain ⟨rfl, rfl, rfl⟩ := trodAll_nil r0
  obtain rfl : args = #[v0] := by cases args; simp_all
  obtain ⟨rfl, rfl⟩ := trodVars_none hV
  obtain ⟨a0, len0, cap0, rfl⟩ := okWide_slice Try.underlying22 (hval 0 22 v0 rfl rfl)
  have k0 := h0
  have lt0 : ∀ x ∈ p0, x.block < W.heap.size := by obtain ⟨m, hm⟩ := k0; exact DataW.trod_lt m _ _ _ hm
  obtain ⟨z0, w0⟩ : ∃ zs, IsRow .i32 W a0 len0 cap0 zs := by
    obtain ⟨fuel, hf⟩ := h0
    rcases open_ints Try.underlying22 Try.underlying21 (by kernel_rfl) hf with ⟨hcs, _⟩ | ⟨x, l, c, zs, hcs, _, hl, hm, hz, _, hcell, hwz⟩
    · simp [Value.cells] at hcs
      obtain ⟨rfl, rfl, rfl⟩ := hcs
      exact ⟨[], .inl ⟨rfl, rfl, rfl, rfl⟩⟩
    · simp [Value.cells] at hcs
      obtain ⟨rfl, rfl, rfl⟩ := hcs
      exact ⟨zs, .inr ⟨_, rfl, hl, hm, by simpa using hz, hcell, hwz⟩⟩
  clear hA0 hval0
  refine (walk a0 len0 cap0 z0 W w0).mono fun e W' ⟨he, bel⟩ => ?_
  subst he
  exact ⟨_, rfl, _, _, _, [], _, [], hW', trodAll_mk1 (shut_bool Try.underlying4 _), (trodAll_cons_mk (Below.trod laidOut (by kernel_rfl) (of_decide_eq_true (by kernel_rfl)) k0 bel lt0) trodAll_mk0), rfl, bel.frame _, fun h => by cases h⟩

theorem over : Rows.punyEncodesRow.holds Try.pinned (OpenSpec.ofChange Rows.punyEncodesSpec) :=
  OpenClaim.holds_of_wide 3 Try.f3 rfl rfl rfl rfl rfl rfl rfl ⟨rfl, rfl, rfl, rfl, rfl⟩ rfl rfl rfl rfl rfl (by kernel_rfl) Try.func3 (by kernel_rfl)
    (of_decide_eq_true (by kernel_rfl)) (by unfold Func.isWrapper; first | (rw [if_pos (by decide +kernel)]; kernel_rfl) | (rw [if_neg (by decide +kernel)]; exact ⟨rfl, rfl⟩))
    (fun os started H enc _ => lifted os started H enc)

end Go.Proofs.Ytoknfhjclpdihaa.punyEncodes
namespace Go.Proofs.Ytoknfhjclpdihaa
theorem punyEncodes_holds : Rows.PunyEncodesSaid := punyEncodes.over
#print axioms punyEncodes_holds
end Go.Proofs.Ytoknfhjclpdihaa
