/-
  For every slice l of rows and every uint8 other the law StageRows returns true, and both read behind the call as they read before. No condition.
-/
import Derived.Test.YtpfnljebofgifabRows
import Derived.Test.YtpfnljebofgifabStg20
import Derived.WalkKit
import Derived.ProofKit
import Derived.OpenShut
import Derived.ShutString
import Derived.ChangeOld
import Derived.Below
namespace Go.Proofs.Ytpfnljebofgifab.stageRows
open Go.ChangeShapes Go.WideShapes Go.ChangeAt Go.RowKit
open Go.ChangeMaps (open_string shut_string)
set_option linter.unusedVariables false

theorem own : ownKnob Try.prog.godebug = none := by kernel_rfl
theorem laidOut : laidOutB Try.prog = true := by kernel_rfl

theorem walk_big (ao : Option Addr) (n cap : Nat) (a1 : Int) (w : World) (h : 60 < n) (hn : n ≤ maxLen) :
    Calls Try.prog 4 #[.slice ao n cap, .int .u8 a1] w fun e w' => e = .returned (.bool true) ∧ Below w.heap.size w w' := by
  have hok := Ok.start w
  unfold maxLen at hn
  have h2 : (60 : Int) < (n : Int) := by omega
  go_enter Try.func4, Try.ntmps4
  go_wp2_with (go_at_call 6; refine (awake_any _).mono ?_; rintro e w' ⟨rfl, hb'⟩; replace hok := hok.step hb'; clear hb')
  go_ret
  exact ⟨rfl, hok.1⟩

set_option maxHeartbeats 8000000 in
set_option maxRecDepth 100000 in
theorem walk (v0 : Value) (x0 : List (SRow Int)) (a1 : Int) (w : World) (w0 : LIn w v0 x0 ∧ x0.length ≤ maxLen) (w1 : (Lit.int .u8 a1).wf = true) :
    Calls Try.prog 4 #[v0, .int .u8 a1] w fun e w' => e = .returned (.bool true) ∧ Below w.heap.size w w' := by
  obtain ⟨hl, hlm⟩ := w0
  have hok := Ok.start w
  have HLs := hid hl
  obtain ⟨ao, cap, rfl, _⟩ := hl
  by_cases hbig : 60 < x0.length
  · exact walk_big _ _ _ _ _ hbig hlm
  · have h60 : x0.length ≤ 60 := by omega
    have z1 : ¬ (60 : Int) < (x0.length : Int) := by omega
    have ha := ok_u8 w1
    have q1 : wrap64 a1 = a1 := by unfold wrap64; omega
    clear hbig hlm w1
    go_enter Try.func4, Try.ntmps4
    go_wp2_with fail
    refine (rows_any HLs.out h60).mono ?_
    rintro e W1 ⟨av, bv, rfl, hR⟩
    replace hok := hok.step hR.bel
    have HB := hid (build_any (vin_own hR.a) (by unfold maxLen; omega) a1)
    have HRI := hid (rin_own hR.b)
    obtain ⟨ao3, cap3, rfl⟩ := own_slice hR.a
    obtain ⟨ao4, cap4, rfl⟩ := own_slice hR.b
    replace HLs := hid (HLs.out.step hR.bel)
    clear hR
    go_wp2_with fail
    refine HB.out.mono ?_
    rintro e W2 ⟨hb2, ⟨hc, rfl⟩ | ⟨hc, p, hp, rfl, f, vals, nr, bl, pl, ht⟩⟩
    · replace hok := hok.step hb2
      have HRC := hid (rcheck_any (HRI.out.step hb2) h60)
      have hc1 : (check x0 == 0) = false := by simpa using hc
      clear HRI HLs hb2 HB
      go_wp2_with fail
      refine HRC.out.mono ?_
      rintro e W3 ⟨rfl, n3, hw3⟩
      have hok3 : Ok w.heap.size w W3 := by rw [hw3]; exact ⟨below_drewN hok.1 _, hok.2⟩
      clear hw3 hok HRC
      generalize check x0 = c at *
      go_wp2_with (go_at_call 6; refine (awake_any _).mono ?_; rintro e w' ⟨rfl, hb'⟩; replace hok3 := hok3.step hb'; clear hb')
      go_ret
      exact ⟨rfl, hok3.1⟩
    · replace hok := hok.step hb2
      have HRC := hid (rcheck_any (HRI.out.step hb2) h60)
      replace HRI := hid (HRI.out.step hb2)
      replace HLs := hid (HLs.out.step hb2)
      have HT := hid ht
      have hris : Hid (Rising (-1) x0) := by
        rw [check, if_neg (by omega)] at hc
        exact rising_of_chk x0 (-1) (by omega) hc
      rw [hc] at HRC
      clear hb2 HB ht
      go_wp2_with fail
      refine HRC.out.mono ?_
      rintro e W3 ⟨rfl, n3, hw3⟩
      have bel3 : Below W2.heap.size W2 W3 := by rw [hw3]; exact below_drewN (Below.refl _ _) _
      replace hok := hok.step bel3
      replace HRI := hid (HRI.out.step bel3)
      replace HLs := hid (HLs.out.step bel3)
      replace HT := hid (HT.out.step bel3)
      clear hw3 bel3 HRC
      -- what is known of the rows
      obtain ⟨F, hF⟩ : ∃ F, F = x0.foldl (stepF a1) [] := ⟨_, rfl⟩
      have hsf := scan_fewest x0 a1 hris.out
      rw [← hF] at hsf
      have hso := scan_ok (at' a1 x0) a1 1114112 (Nat.le_refl _)
      have hFr := hso.rising
      rw [hsf] at hFr
      have hFt : ∀ q : Int, 0 ≤ q → q ≤ 1114111 → at' a1 F q = at' a1 x0 q := fun q q0 q1 => by
        have := hso.tells q q0 (by omega)
        rwa [hsf] at this
      have hFl : F.length ≤ 60 := by
        have := fewest_len a1 x0 []
        rw [← hF] at this
        simp at this; omega
      have HFC : Hid (check F = 0) := by
        show _ = _
        rw [check, if_neg (by omega)]
        exact chk_of_rising F (-1) (by omega) hFr
      have HFV : Hid (∀ r, getV a1 F r = getV a1 x0 r) := fun r => by
        unfold getV
        split
        · rfl
        · exact hFt r (by omega) (by omega)
      have HFT := hid hFt
      have HFR := hid hFr
      have hbm : Hid (bl.length ≤ 3 * x0.length + 1) := by
        have hrn := rising_num x0 nr (-1) HT.out.numd.len (fun j x y hx hy => ⟨(HT.out.numd.same j x y hx hy).1, (HT.out.numd.same j x y hx hy).2.1⟩) hris.out
        exact blocks_most HT.out.numd hrn HT.out.laid
      have hb1 : Hid (1 ≤ bl.length) := List.length_pos_of_mem (HT.out.laid.mem 0 (by omega))
      have HRW := hid (fun (W : World) (h : TabP W p x0 a1 f vals nr bl pl) => trows_any h)
      rw [hsf] at HRW
      have HFE := hid (rfewest_any HRI.out h60 hris.out a1)
      rw [← hF] at HFE
      clear hF hsf hso hFr hFt HRI
      go_wp2_with fail
      refine HFE.out.mono ?_
      rintro e W4 ⟨fv, rfl, hfw⟩
      have bel4 := hid hfw.bel
      replace hok := hok.step hfw.bel
      replace HLs := hid (HLs.out.step hfw.bel)
      replace HT := hid (HT.out.step hfw.bel)
      have HWA := hid (rin_own hfw.own)
      obtain ⟨ao5, cap5, rfl⟩ := own_slice hfw.own
      clear hfw HFE bel4
      go_wp2_with fail
      refine (HRW.out _ HT.out).mono ?_
      rintro e W5 ⟨gv, rfl, hgo, bel5⟩
      replace hok := hok.step bel5
      replace HLs := hid (HLs.out.step bel5)
      replace HT := hid (HT.out.step bel5)
      replace HWA := hid (HWA.out.step bel5)
      have HGO := hid (vin_own hgo)
      obtain ⟨ao6, cap6, rfl⟩ := own_slice hgo
      clear hgo bel5 HRW
      have y1 : (bl.length : Int) ≤ 3 * (x0.length : Int) + 1 := by have := hbm.out; omega
      have y2 : (1 : Int) ≤ (bl.length : Int) := by have := hb1.out; omega
      have y3 : ¬ 3 * (x0.length : Int) + 1 < (bl.length : Int) := by omega
      have y4 : ¬ (bl.length : Int) < 1 := by omega
      have y5 : wrap64 (3 * (x0.length : Int)) = 3 * (x0.length : Int) := by unfold wrap64; omega
      have y6 : wrap64 (3 * (x0.length : Int) + 1) = 3 * (x0.length : Int) + 1 := by unfold wrap64; omega
      go_wp2_with (go_at_call 14; refine (blocks_p HT.out).mono ?_; rintro e w' ⟨rfl, hw'⟩; rw [hw']; clear hw' w')
      go_loopg [74] F.length (fun g i wr => ∃ k : Nat, k ≤ F.length ∧ g = F.length - k ∧ i = .int .i64 k ∧ Ok w.heap.size w wr ∧ Below W5.heap.size W5 wr)
      case atStart => exact ⟨0, Nat.zero_le _, by omega, rfl, hok, Below.refl _ _⟩
      case round =>
        clear hok
        obtain ⟨k, hk, hg, rfl, hok, hb⟩ := hrel
        have HG := hid hg
        clear hg
        by_cases hlt : k < F.length
        · obtain ⟨ao7, cap7, e7, _, hc7⟩ := HGO.out
          cases e7
          obtain ⟨gb, off, rfl, hgb, e0, e1, e2⟩ := hc7 k hlt
          obtain ⟨ao8, cap8, e8, hc8⟩ := HWA.out
          cases e8
          obtain ⟨gb2, rfl, hgb2, e3, e4, e5⟩ := hc8 k hlt
          have d0 := (hb.cell (p := ⟨gb, off + k * 3, none⟩) hgb).trans e0
          have d1 := (hb.cell (p := ⟨gb, off + k * 3 + 1, none⟩) hgb).trans e1
          have d2 := (hb.cell (p := ⟨gb, off + k * 3 + 2, none⟩) hgb).trans e2
          have d3 := (hb.cell (p := ⟨gb2, k * 3, none⟩) hgb2).trans e3
          have d4 := (hb.cell (p := ⟨gb2, k * 3 + 1, none⟩) hgb2).trans e4
          have d5 := (hb.cell (p := ⟨gb2, k * 3 + 2, none⟩) hgb2).trans e5
          have hlt2 : gb2 < wr.heap.size := by have := hb.size; omega
          have hx0 := (rising_after F (-1) HFR.out k F[k] (List.getElem?_eq_getElem hlt)).1
          have hx1 := rising_fine F (-1) HFR.out F[k] (List.getElem_mem hlt)
          generalize F[k] = x at *
          obtain ⟨xf, xt, xv⟩ := x
          simp only at d0 d1 d2 d3 d4 d5 hx0 hx1
          clear e0 e1 e2 e3 e4 e5 hc7 hc8
          have w1 : wrap64 xf = xf := by unfold wrap64; omega
          have w2 : wrap64 xt = xt := by unfold wrap64; omega
          have w3 : IntKind.i64.wrap xf = xf := by rw [IntKind.wrap_i64]; omega
          have w4 : IntKind.i64.wrap xt = xt := by rw [IntKind.wrap_i64]; omega
          have w5 : (0 : Int) ≤ k ∧ (k : Int) < (F.length : Int) := by omega
          have HE : Hid (∀ n, Ok w.heap.size w ((wr.alloc (.cells #[.int .i32 xf, .int .i32 xt, .int .i64 xv] 43)).drewN n) ∧ Below W5.heap.size W5 ((wr.alloc (.cells #[.int .i32 xf, .int .i32 xt, .int .i64 xv] 43)).drewN n)) := fun n =>
            ⟨⟨below_drewN hok.alloc.1 n, hok.alloc.2⟩, below_drewN (hb.alloc hb.size _) n⟩
          go_wp2_with fail
          have hnew := heap_alloc_new wr (.cells #[.int .i32 xf, .int .i32 xt, .int .i64 xv] 43)
          have f3 := (World.cell?_alloc_lt wr (.cells #[.int .i32 xf, .int .i32 xt, .int .i64 xv] 43) ⟨gb2, k * 3, none⟩ hlt2).trans d3
          have f4 := (World.cell?_alloc_lt wr (.cells #[.int .i32 xf, .int .i32 xt, .int .i64 xv] 43) ⟨gb2, k * 3 + 1, none⟩ hlt2).trans d4
          have f5 := (World.cell?_alloc_lt wr (.cells #[.int .i32 xf, .int .i32 xt, .int .i64 xv] 43) ⟨gb2, k * 3 + 2, none⟩ hlt2).trans d5
          clear d0 d1 d2 d3 d4 d5 hok hb hlt2
          generalize wr.alloc (.cells #[.int .i32 xf, .int .i32 xt, .int .i64 xv] 43) = W6 at *
          generalize wr.heap.size = lb at *
          obtain ⟨s0, s1, s2, _, _, _⟩ := blk3 hnew
          clear hnew
          go_quiet (fail)
          obtain ⟨hok, hb⟩ := HE.out nq
          clear HE s0 s1 s2 f3 f4 f5
          go_wp2_with fail
          go_roundg (F.length - (k + 1))
          case measure => rw [HG.out]; omega
          case rel => exact ⟨k + 1, by omega, rfl, by go_num, hok, hb⟩
        · have e : k = F.length := by omega
          subst e
          replace HLs := hid (HLs.out.step hb)
          replace HT := hid (HT.out.step hb)
          have HB2 := hid (build_any (HGO.out.step hb) (by unfold maxLen; omega) a1)
          clear HGO HWA hb HG
          go_wp2_with fail
          refine HB2.out.mono ?_
          rintro e W7 ⟨hb7, ⟨hc7, _⟩ | ⟨_, pu, hpu, rfl, fu, valsu, nru, blu, plu, htu⟩⟩
          · exact absurd HFC.out hc7
          · replace hok := hok.step hb7
            replace HLs := hid (HLs.out.step hb7)
            replace HT := hid (HT.out.step hb7)
            have HU := hid htu
            have hbe : blu.length = bl.length := Nat.le_antisymm (blocks_same htu HT.out HFT.out) (blocks_same HT.out htu (fun q q0 q1 => (HFT.out q q0 q1).symm))
            have hbe' : ((blu.length : Int) == (bl.length : Int)) = true := by simp [hbe]
            clear htu hb7 HB2 hbe
            go_wp2_with fail
            refine (blocks_p HU.out).mono ?_
            rintro e w' ⟨rfl, hw'⟩
            rw [hw']
            clear hw' w'
            go_wp2_with fail
            refine (blocks_p HT.out).mono ?_
            rintro e w' ⟨rfl, hw'⟩
            rw [hw']
            clear hw' w'
            go_wp2_with fail
            go_loopg [132] x0.length (fun g i wr => ∃ k : Nat, k ≤ x0.length ∧ g = x0.length - k ∧ i = .int .i64 k ∧ Ok w.heap.size w wr ∧ Below W7.heap.size W7 wr)
            case atStart => exact ⟨0, Nat.zero_le _, by omega, rfl, hok, Below.refl _ _⟩
            case round =>
              clear hok
              obtain ⟨k, hk, hg, rfl, hok, hb⟩ := hrel
              have HG := hid hg
              clear hg
              by_cases hlt : k < x0.length
              · obtain ⟨ao7, cap7, e7, hc7⟩ := HLs.out
                cases e7
                obtain ⟨_, gb, off, rfl, hgb, e0, e1, e2⟩ := hc7 k hlt
                have d0 := (hb.cell (p := ⟨gb, off + k * 3, none⟩) hgb).trans e0
                have d1 := (hb.cell (p := ⟨gb, off + k * 3 + 1, none⟩) hgb).trans e1
                have d2 := (hb.cell (p := ⟨gb, off + k * 3 + 2, none⟩) hgb).trans e2
                generalize x0[k] = x at *
                obtain ⟨xf, xt, xv⟩ := x
                simp only at d0 d1 d2
                clear e0 e1 e2 hc7
                have hbW : Below W7.heap.size W7 (wr.alloc (.cells #[.int .i32 xf, .int .i32 xt, .int .u8 xv] 35)) := hb.alloc hb.size _
                have HE : Hid (∀ n, Ok w.heap.size w ((wr.alloc (.cells #[.int .i32 xf, .int .i32 xt, .int .u8 xv] 35)).drewN n) ∧ Below W7.heap.size W7 ((wr.alloc (.cells #[.int .i32 xf, .int .i32 xt, .int .u8 xv] 35)).drewN n)) := fun n =>
                  ⟨⟨below_drewN hok.alloc.1 n, hok.alloc.2⟩, below_drewN hbW n⟩
                have HGG : Hid (∀ (q n : Nat) (r : Int), (q = p ∨ q = pu) → Calls Try.prog 10 #[.pointer (some ⟨q, 0, none⟩), .int .i32 r] ((wr.alloc (.cells #[.int .i32 xf, .int .i32 xt, .int .u8 xv] 35)).drewN n) fun e w' => e = .returned (.int .i64 (getV a1 x0 r)) ∧ ∃ m, w' = ((wr.alloc (.cells #[.int .i32 xf, .int .i32 xt, .int .u8 xv] 35)).drewN n).drewN m) := by
                  intro q n r hq
                  have hT8 := (HT.out.step hbW).step (below_drewN (Below.refl _ _) n)
                  have hU8 := (HU.out.step hbW).step (below_drewN (Below.refl _ _) n)
                  rcases hq with rfl | rfl
                  · exact get_p hT8 r
                  · rw [← HFV.out r]; exact get_p hU8 r
                go_wp2_with fail
                have hnew := heap_alloc_new wr (.cells #[.int .i32 xf, .int .i32 xt, .int .u8 xv] 35)
                clear d0 d1 d2 hok hb hbW
                generalize wr.alloc (.cells #[.int .i32 xf, .int .i32 xt, .int .u8 xv] 35) = W8 at *
                generalize wr.heap.size = lb at *
                obtain ⟨s0, s1, s2, _, _, _⟩ := blk3 hnew
                clear hnew
                go_quiet ((go_at_call 10; exact Calls.quiet_of (HGG.out _ _ _ (by first | exact .inl rfl | exact .inr rfl))))
                obtain ⟨hok, hb⟩ := HE.out nq
                clear HE HGG s0 s1 s2
                go_wp2_with fail
                go_roundg (x0.length - (k + 1))
                case measure => rw [HG.out]; omega
                case rel => exact ⟨k + 1, by omega, rfl, by go_num, hok, hb⟩
              · have e : k = x0.length := by omega
                subst e
                go_wp2_with (go_at_call 6; refine (awake_any _).mono ?_; rintro e w' ⟨rfl, hb'⟩; replace hok := hok.step hb'; clear hb')
                go_ret
                exact ⟨rfl, hok.1⟩

set_option maxRecDepth 100000 in
theorem lifted (os : Os) (started : os.Started) (H : Type) (enc : TypeId × Value → H) :
    ReturnsInHanded {} Try.checked os 4 .any (Rows.stageRowsSpec.pre6 enc Try.prog Try.f4 Rows.stageRowsRow.domain false) (Rows.stageRowsSpec.post enc Try.prog Try.f4 false true false false) := by
  refine returnsInHanded_of_change (C := Try.checked) own started (by kernel_rfl) Try.func4
    (ChangeSpec.witness6 (enc := enc) (C := Try.checked) false ⟨#[], #[.slice none 0 0, .int .u8 0], []⟩ 8 (by kernel_rfl) (by kernel_rfl) (by kernel_rfl) (by kernel_rfl)) ?_
  intro W base args ds gs before hval0 hW hcnd _
  have hval : ∀ (j : Nat) t v, Try.f4.params[j]? = some t → args[j]? = some v → Value.okWide Try.prog W .any base t v := hval0
  have hW' := hW
  obtain ⟨p, q, hA0, hV, rfl, hfz, hnd⟩ := hW
  have hA : DataW.TrodAll enc Try.prog W 0 (fun _ => true) true Try.f4.params.toList args.toList ds p := hA0
  rw [Try.params4] at hA hval
  obtain ⟨v0, vs0, d0, ds0, p0, q0, hargs, rfl, rfl, h0, r0⟩ := trodAll_cons hA
  obtain ⟨v1, vs1, d1, ds1, p1, q1, rfl, rfl, rfl, h1, r1⟩ := trodAll_cons r0
  obtain ⟨rfl, rfl, rfl⟩ := trodAll_nil r1
  obtain rfl : args = #[v0, v1] := by cases args; simp_all
  obtain ⟨rfl, rfl⟩ := trodVars_none hV
  obtain ⟨a0, len0, cap0, rfl⟩ := okWide_slice Try.underlying22 (hval 0 22 v0 rfl rfl)
  have k0 := h0
  have lt0 : ∀ x ∈ p0, x.block < W.heap.size := by obtain ⟨m, hm⟩ := k0; exact DataW.trod_lt m _ _ _ hm
  obtain ⟨x0, w0⟩ := open_lin (v := .slice a0 len0 cap0) rfl h0
  obtain ⟨a1, rfl, rfl, rfl, w1⟩ := open_int Try.underlying5 (hval 1 5 v1 rfl rfl) h1
  clear hA0 hval0
  refine (walk _ x0 a1 W w0 w1).mono fun e W' ⟨he, bel⟩ => ?_
  subst he
  exact ⟨_, rfl, _, _, _, [], _, [], hW', trodAll_mk1 (shut_bool Try.underlying4 _), (trodAll_cons_mk (Below.trod laidOut (by kernel_rfl) (of_decide_eq_true (by kernel_rfl)) k0 bel lt0) (trodAll_cons_mk (shut_int Try.underlying5 w1) trodAll_mk0)), rfl, bel.frame _, fun h => by cases h⟩

theorem over : Rows.stageRowsRow.holds Try.pinned (OpenSpec.ofChange Rows.stageRowsSpec) :=
  OpenClaim.holds_of_wide 4 Try.f4 rfl rfl rfl rfl rfl rfl rfl ⟨rfl, rfl, rfl, rfl, rfl⟩ rfl rfl rfl rfl rfl (by kernel_rfl) Try.func4 (by kernel_rfl)
    (of_decide_eq_true (by kernel_rfl)) (by unfold Func.isWrapper; first | (rw [if_pos (by decide +kernel)]; kernel_rfl) | (rw [if_neg (by decide +kernel)]; exact ⟨rfl, rfl⟩))
    (fun os started H enc _ => lifted os started H enc)

end Go.Proofs.Ytpfnljebofgifab.stageRows
namespace Go.Proofs.Ytpfnljebofgifab
theorem stageRows_holds : Rows.StageRowsSaid := stageRows.over
#print axioms stageRows_holds
end Go.Proofs.Ytpfnljebofgifab
