/-
  For every slice l of pairs of runes the law PairMakes returns true, and l reads behind the call as it read before. No condition.
-/
import Derived.Test.YtfbphacbnmimkabRows
import Derived.Test.YtfbphacbnmimkabPr17
import Derived.WalkKit
import Derived.ProofKit
import Derived.OpenShut
import Derived.ShutString
import Derived.ChangeOld
import Derived.Below
namespace Go.Proofs.Ytfbphacbnmimkab.pairMakes
open Go.ChangeShapes Go.WideShapes Go.ChangeAt Go.RowKit
open Go.ChangeMaps (open_string shut_string)
set_option linter.unusedVariables false

theorem own : ownKnob Try.prog.godebug = none := by kernel_rfl
theorem laidOut : laidOutB Try.prog = true := by kernel_rfl

theorem two_at {w : World} {v : Value} {os : List (Int × Int)} (h : TwoSl w v os) : ∃ ao cap, v = .slice ao os.length cap ∧ ∀ j (hj : j < os.length), ∃ b off, ao = some ⟨b, off, none⟩ ∧ b < w.heap.size ∧ w.cell? ⟨b, off + j * 2, none⟩ = some (.int .i32 os[j].1) ∧ w.cell? ⟨b, off + j * 2 + 1, none⟩ = some (.int .i32 os[j].2) := by
  rcases h.1 with ⟨rfl, a, cap, rfl⟩ | ⟨b, off, cap, rfl, hlt, hc⟩
  · exact ⟨a, cap, rfl, fun j hj => by simp at hj⟩
  · exact ⟨_, cap, rfl, fun j hj => ⟨b, off, rfl, hlt, hc j hj⟩⟩

set_option maxHeartbeats 4000000 in
set_option maxRecDepth 100000 in
theorem walk (v0 : Value) (x0 : List (Int × Int)) (w : World) (w0 : TwoSl w v0 x0 ∧ x0.length ≤ maxLen) :
    Calls Try.prog 4 #[v0] w fun e w' => e = .returned (.bool true) ∧ Below w.heap.size w w' := by
  obtain ⟨hT, hlM⟩ := w0
  obtain ⟨ao, cap0, rfl, hc⟩ := two_at hT
  have HR := hid (And.intro hc hT.2)
  clear hc hT
  unfold maxLen at hlM
  have HN := hid (new_any w)
  have HAw := hid (fun (w : World) (p d u s : Nat) (h : PW w p d u s allP 395) => awake_any h)
  have HRA := hid (fun w => rall_any w)
  have HQ := hid (fun (g cap : Nat) (w : World) (p d u s : Nat) (a b : Int) (ha : I32 a) (hb : I32 b) => And.intro (fun (h : PW w p d u s allP 395) => up_g h ha hb) (fun (h : RR3 w g allP) => rup_any (cap := cap) h (by rw [all_lenP]; decide) a b))
  have HE := hid (fun a b => rup_eq a b)
  have h395 : allP.length = 395 := all_lenP
  have hpos : 0 < allP.length := by rw [h395]; decide
  rw [h395] at HRA HQ
  have HROwn := hid (fun (w : World) (B : Nat) (v : Value) (h : w.ownsRow B 57 3 v 395 (allP.flatMap rc3)) => (by rw [← h395] at h; have h2 := rr3_of_own h hpos; rw [h395] at h2; exact h2 : ∃ g cap, v = .slice (some ⟨g, 0, none⟩) 395 cap ∧ RR3 w g allP))
  clear h395 hpos
  generalize allP = L at *
  have h0 := Ok.start w
  by_cases hl : 40 < x0.length
  · go_enter Try.func4, Try.ntmps4
    go_wp2_with fail
    refine HN.out.mono ?_
    rintro e w1 ⟨p, d, u, s, rfl, hP1, hb1⟩
    have HP := hid hP1
    replace h0 := h0.step hb1
    clear hP1 hb1
    go_wp2_with fail
    refine (HAw.out _ _ _ _ _ HP.out).mono ?_
    rintro e w2 ⟨rfl, hb2⟩
    replace h0 := h0.step hb2
    go_wp2_with fail
    go_ret
    exact ⟨rfl, h0.1⟩
  · go_enter Try.func4, Try.ntmps4
    go_wp2_with fail
    refine HN.out.mono ?_
    rintro e w1 ⟨p, d, u, s, rfl, hP1, hb1⟩
    have HP := hid hP1
    replace h0 := h0.step hb1
    clear hP1 hb1 HN
    go_wp2_with fail
    refine (HRA.out _).mono ?_
    rintro e w2 ⟨v2, rfl, ho2, hb2⟩
    obtain ⟨g, cap, rfl, hr2⟩ := HROwn.out _ _ _ ho2
    have HRR := hid hr2
    replace HP := hid (HP.out.step hb2)
    replace h0 := h0.step hb2
    clear ho2 hb2 hr2 HRA HROwn
    go_wp2_with fail
    go_loopg [21] x0.length (fun gg i wr => ∃ k : Nat, k ≤ x0.length ∧ gg = x0.length - k ∧ i = .int .i64 k ∧ Hid (Ok w.heap.size w wr ∧ PW wr p d u s L 395 ∧ RR3 wr g L))
    case atStart => exact ⟨0, Nat.zero_le _, by omega, rfl, h0, HP.out, HRR.out⟩
    case round =>
      clear h0 HP HRR
      obtain ⟨k, hk, hg, rfl, H⟩ := hrel
      have HG := hid hg
      have hok := H.out.1
      have HP := hid H.out.2.1
      have HRR := hid H.out.2.2
      clear hg H
      by_cases hlt : k < x0.length
      · obtain ⟨bb, off, rfl, hbl, hc1, hc2⟩ := HR.out.1 k hlt
        have f1 := (hok.1.cell (p := ⟨bb, off + k * 2, none⟩) hbl).trans hc1
        have f2 := (hok.1.cell (p := ⟨bb, off + k * 2 + 1, none⟩) hbl).trans hc2
        have hr := HR.out.2 x0[k] (List.getElem_mem hlt)
        have b1 : (0 : Int) ≤ k ∧ (k : Int) < (x0.length : Int) := by omega
        clear hc1 hc2 hbl HR
        generalize x0[k] = x at *
        obtain ⟨a, b⟩ := x
        simp only at f1 f2 hr
        have HU := hid (fun w h => (HQ.out g cap w p d u s a b hr.1 hr.2).1 h)
        have HRU := hid (fun w h => (HQ.out g cap w p d u s a b hr.1 hr.2).2 h)
        have hE := HE.out a b
        have hub := u_bd a b
        obtain ⟨q0, q1⟩ := hub
        obtain ⟨⟨r0, r1⟩, ⟨r2, r3⟩⟩ := hr
        clear HQ HE
        generalize Go.Proofs.Ytfbphacbnmimkab.u1 a b = z at *
        generalize Go.Proofs.Ytfbphacbnmimkab.u2 a b = t at *
        generalize rupP L a b L = v at *
        rcases hE with ⟨rfl, rfl, e3⟩ | ⟨rfl, rfl, rfl⟩
        all_goals
          go_wp2_with (first | (go_at_call 17; refine (HU.out _ (HP.out.step ((Below.refl _ _).alloc (Nat.le_refl _) _))).mono ?_; rintro e w2 ⟨rfl, rfl⟩) | (go_at_call 18; refine (HRU.out _ (HRR.out.step ((Below.refl _ _).alloc (Nat.le_refl _) _))).mono ?_; rintro e w2 ⟨rfl, hb2⟩; replace hok := hok.alloc.step hb2; replace HP := hid ((HP.out.step ((Below.refl _ _).alloc (Nat.le_refl _) _)).step hb2); replace HRR := hid ((HRR.out.step ((Below.refl _ _).alloc (Nat.le_refl _) _)).step hb2); clear hb2))
          go_roundg (x0.length - (k + 1))
          case measure => rw [HG.out]; omega
          case rel => exact ⟨k + 1, by omega, rfl, by go_num, hok, HP.out, HRR.out⟩
      · go_wp2_with (go_at_call 8; refine (HAw.out _ _ _ _ _ HP.out).mono ?_; rintro e w2 ⟨rfl, hb2⟩; replace hok := hok.step hb2; clear hb2)
        go_ret
        exact ⟨rfl, hok.1⟩

set_option maxRecDepth 100000 in
theorem lifted (os : Os) (started : os.Started) (H : Type) (enc : TypeId × Value → H) :
    ReturnsInHanded {} Try.checked os 4 .any (Rows.pairMakesSpec.pre6 enc Try.prog Try.f4 Rows.pairMakesRow.domain false) (Rows.pairMakesSpec.post enc Try.prog Try.f4 false true false false) := by
  refine returnsInHanded_of_change (C := Try.checked) own started (by kernel_rfl) Try.func4
    (ChangeSpec.witness6 (enc := enc) (C := Try.checked) false ⟨#[], #[.slice none 0 0], []⟩ 8 (by kernel_rfl) (by kernel_rfl) (by kernel_rfl) (by kernel_rfl)) ?_
  intro W base args ds gs before hval0 hW hcnd _
  have hval : ∀ (j : Nat) t v, Try.f4.params[j]? = some t → args[j]? = some v → Value.okWide Try.prog W .any base t v := hval0
  have hW' := hW
  obtain ⟨p, q, hA0, hV, rfl, hfz, hnd⟩ := hW
  have hA : DataW.TrodAll enc Try.prog W 0 (fun _ => true) true Try.f4.params.toList args.toList ds p := hA0
  rw [Try.params4] at hA hval
  obtain ⟨v0, vs0, d0, ds0, p0, q0, hargs, rfl, rfl, h0, r0⟩ := trodAll_cons hA
  obtain ⟨rfl, rfl, rfl⟩ := trodAll_nil r0
  obtain rfl : args = #[v0] := by cases args; simp_all
  obtain ⟨rfl, rfl⟩ := trodVars_none hV
  obtain ⟨a0, len0, cap0, rfl⟩ := okWide_slice Try.underlying37 (hval 0 37 v0 rfl rfl)
  have k0 := h0
  have lt0 : ∀ x ∈ p0, x.block < W.heap.size := by obtain ⟨m, hm⟩ := k0; exact DataW.trod_lt m _ _ _ hm
  obtain ⟨x0, w0⟩ := open_two (v := .slice a0 len0 cap0) rfl h0
  clear hA0 hval0
  refine (walk _ x0 W w0).mono fun e W' ⟨he, bel⟩ => ?_
  subst he
  exact ⟨_, rfl, _, _, _, [], _, [], hW', trodAll_mk1 (shut_bool Try.underlying4 _), (trodAll_cons_mk (Below.trod laidOut (by kernel_rfl) (of_decide_eq_true (by kernel_rfl)) k0 bel lt0) trodAll_mk0), rfl, bel.frame _, fun h => by cases h⟩

theorem over : Rows.pairMakesRow.holds Try.pinned (OpenSpec.ofChange Rows.pairMakesSpec) :=
  OpenClaim.holds_of_wide 4 Try.f4 rfl rfl rfl rfl rfl rfl rfl ⟨rfl, rfl, rfl, rfl, rfl⟩ rfl rfl rfl rfl rfl (by kernel_rfl) Try.func4 (by kernel_rfl)
    (of_decide_eq_true (by kernel_rfl)) (by unfold Func.isWrapper; first | (rw [if_pos (by decide +kernel)]; kernel_rfl) | (rw [if_neg (by decide +kernel)]; exact ⟨rfl, rfl⟩))
    (fun os started H enc _ => lifted os started H enc)

end Go.Proofs.Ytfbphacbnmimkab.pairMakes
namespace Go.Proofs.Ytfbphacbnmimkab
theorem pairMakes_holds : Rows.PairMakesSaid := pairMakes.over
#print axioms pairMakes_holds
end Go.Proofs.Ytfbphacbnmimkab
