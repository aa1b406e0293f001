import Derived.Test.YtemdmalcoemhnabUcd12
namespace Go.Proofs.Ytemdmalcoemhnab.Uc
open Go.RowKit

set_option maxHeartbeats 4000000 in
set_option maxRecDepth 100000 in
theorem asg_any {w : World} {g cap : Nat} {T : List Ln} (h : LIn w g T) (hm : (asgP T).length ≤ 4000) (hl : T.length ≤ 4000) (hs : ∀ x ∈ T, 0 ≤ x.1 ∧ x.1 ≤ 1114111 ∧ 0 ≤ x.2.1 ∧ x.2.1 ≤ 1114111) :
    Calls Try.prog 17 #[.slice (some ⟨g, 0, none⟩) T.length cap] w fun e w' => ∃ ov, e = .returned ov ∧ AsgW w T (asgP T) ov w' := by
  have HC := hid h
  have HS := hid hs
  clear h hs
  go_enter Try.func17, Try.ntmps17
  go_wp2_with fail
  go_loopg [9, 3] T.length (fun gg i ov wr => ∃ (k : Nat), k ≤ T.length ∧ gg = T.length - k ∧ i = .int .i64 k ∧ Hid (AsgW w T (asgP (T.take k)) ov wr))
  case atStart => exact ⟨0, Nat.zero_le _, by omega, rfl, ⟨World.ownsRow_nil _ _ _ _, Below.refl _ _, by simp [asgP]⟩⟩
  case round =>
    obtain ⟨k, hk, hg, rfl, H⟩ := hrel
    have HG := hid hg
    clear hg
    obtain ⟨ao2, cap2, rfl⟩ := own_slice H.out.own
    by_cases hlt : k < T.length
    · obtain ⟨hgl, hcc⟩ := HC.out
      have hb := H.out.bel
      have c := fun i hi => (hb.cell (p := ⟨g, k * 7 + i, none⟩) hgl).trans (hcc k hlt i hi)
      have d0 := c 0 (by omega)
      have d1 := c 1 (by omega)
      have d2 := c 2 (by omega)
      have d3 := c 3 (by omega)
      have d4 := c 4 (by omega)
      have d5 := c 5 (by omega)
      have d6 := c 6 (by omega)
      have ⟨hf0, hf1, ht0, ht1⟩ := HS.out T[k] (List.getElem_mem hlt)
      have HSn := hid (asg_snoc T k hlt)
      have HLe := hid (Nat.le_trans (asg_le T (k + 1)) hm)
      clear c hcc
      generalize T[k] = x at *
      obtain ⟨x1, x2, x3, x4, x5, x6, x7⟩ := x
      simp only [cells7, List.getElem?_cons_zero, List.getElem?_cons_succ, Nat.add_zero] at d0 d1 d2 d3 d4 d5 d6 hf0 hf1 ht0 ht1
      have HOA := hid (fun o => H.out.own.alloc o)
      have HOL : Hid (∀ g, (Value.slice ao2 (asgP (T.take k)).length cap2).ownBlock = some g → g < wr.heap.size) := fun g hg => (H.out.own.lt g hg).2
      have HB := hid (fun o => hb.alloc (by have := hb.size; omega) o)
      have hmo : (asgP (T.take k)).length ≤ 4000 := H.out.most
      have hL : LocL wr.heap.size (x1, x2, x3, x4, x5, x6, x7) (wr.alloc (.cells #[.int .i32 x1, .int .i32 x2, .int .i64 x3, .int .i64 x4, .int .i64 x5, .int .i64 x6, .int .i64 x7] 78)) := LocL.new wr (x1, x2, x3, x4, x5, x6, x7) _
      clear HC HS H hb
      by_cases hc : x3 ≠ 12 ∧ x3 ≠ 13
      · have HN : Hid (asgP (T.take (k + 1)) = asgP (T.take k) ++ [⟨x1, x2, hasP (x1, x2, x3, x4, x5, x6, x7) x3⟩]) := by
          show _ = _
          rw [HSn.out, lineRows, if_pos hc]
        have hc1 : (x3 != 12) = true := by simpa using hc.1
        have hc2 : (x3 != 13) = true := by simpa using hc.2
        clear hc
        go_wp2_with fail
        have HBa := hid (HB.out (.cells #[.int .i32 x1, .int .i32 x2, .int .i64 x3, .int .i64 x4, .int .i64 x5, .int .i64 x6, .int .i64 x7] 78))
        have HOa := hid (HOA.out (.cells #[.int .i32 x1, .int .i32 x2, .int .i64 x3, .int .i64 x4, .int .i64 x5, .int .i64 x6, .int .i64 x7] 78))
        clear HB HOA
        generalize wr.alloc (.cells #[.int .i32 x1, .int .i32 x2, .int .i64 x3, .int .i64 x4, .int .i64 x5, .int .i64 x6, .int .i64 x7] 78) = W2 at *
        generalize wr.heap.size = lb at *
        have HLL := hid hL
        have HH := hid (has_any W2.drew (x1, x2, x3, x4, x5, x6, x7) x3)
        generalize asgP (T.take k) = m at *
        obtain ⟨s0, s1, s2, s3, s4, s5, s6⟩ := hL
        simp only [lnv, cells7, trv] at HH s0 s1 s2 s3 s4 s5 s6
        clear d0 d1 d2 d3 d4 d5 d6
        go_region_held3 (fun w' => w'.cell? ⟨lb, 0, none⟩ = some (.int .i32 x1) ∧ w'.cell? ⟨lb, 1, none⟩ = some (.int .i32 x2) ∧ w'.cell? ⟨lb, 2, none⟩ = some (.int .i64 x3) ∧ w'.cell? ⟨lb, 3, none⟩ = some (.int .i64 x4) ∧ w'.cell? ⟨lb, 4, none⟩ = some (.int .i64 x5) ∧ w'.cell? ⟨lb, 5, none⟩ = some (.int .i64 x6) ∧ w'.cell? ⟨lb, 6, none⟩ = some (.int .i64 x7))
          (first | exact ⟨s0, s1, s2, s3, s4, s5, s6⟩ | exact HLa.out | exact HLb.out _ | exact HLc.out)
          (first
            | (go_at_call 28; refine HH.out.mono ?_; rintro e w2 ⟨rfl, hb2⟩; have HLa : Hid (LocL lb _ w2) := (HLL.out.of_block (w' := W2.drew) rfl).step hb2; have HLb := hid (fun o => HLa.out.alloc o); have HB2 := hid (HBa.out.drew.trans (hb2.mono HBa.out.size)); have HO2 := hid (own_below HOa.out.drew hb2); clear hb2)
            | (refine step_row7 rfl (.tmp 21) (.tmp 31) rfl w2 w.heap.size m.length (.slice ao2 m.length cap2) (m.flatMap tr7) ⟨x1, x2, hasP (x1, x2, x3, x4, x5, x6, x7) x3⟩ rfl rfl HO2.out (by omega) HB2.out.size ?_; intro g2 cap3 w3 ho3 hg3 hl3; have HO3 := hid ho3; have HB3 := hid ((HB2.out.alloc HB2.out.size _).trans (below_of_grown hg3 _ (by simp; have := HB2.out.size; omega) (fun k e => (HO2.out.lt k e).1))); have HLc : Hid (LocL lb _ w3) := (HLb.out _).of_block (hg3.block lb (by simp; have := HLa.out.lt; omega) (fun e => by have := HOL.out lb e.symm; omega)); clear ho3 hg3 hl3))
        go_wp2_with fail
        go_roundg (T.length - (k + 1))
        case measure => rw [HG.out]; omega
        case rel => exact ⟨k + 1, by omega, rfl, by go_num, ⟨by rw [HN.out]; simpa [List.flatMap_append] using HO3.out, HB3.out, HLe.out⟩⟩
      · obtain ⟨n, hn⟩ : ∃ n, n = (x2 - x1 + 1).toNat := ⟨_, rfl⟩
        have HN : Hid (asgP (T.take (k + 1)) = asgP (T.take k) ++ caseRows (x1, x2, x3, x4, x5, x6, x7) x1 n) := by
          show _ = _
          rw [HSn.out, lineRows, if_neg hc, hn]
        have HLn : Hid ((asgP (T.take k)).length + n ≤ 4000) := by
          have := HLe.out
          rw [HN.out, List.length_append, case_len] at this; exact this
        have hcc : (x3 != 12) = false ∨ ((x3 != 12) = true ∧ (x3 != 13) = false) := by
          by_cases h12 : x3 = 12
          · left; simp [h12]
          · right
            have h13 : x3 = 13 := by omega
            simp [h13]
        clear hc HSn
        rcases hcc with hc1 | ⟨hc1, hc2⟩
        all_goals
          go_wp2_with fail
          have HBa := hid (HB.out (.cells #[.int .i32 x1, .int .i32 x2, .int .i64 x3, .int .i64 x4, .int .i64 x5, .int .i64 x6, .int .i64 x7] 78))
          have HOa := hid (HOA.out (.cells #[.int .i32 x1, .int .i32 x2, .int .i64 x3, .int .i64 x4, .int .i64 x5, .int .i64 x6, .int .i64 x7] 78))
          have HLL := hid hL
          clear HB HOA hL
          generalize wr.alloc (.cells #[.int .i32 x1, .int .i32 x2, .int .i64 x3, .int .i64 x4, .int .i64 x5, .int .i64 x6, .int .i64 x7] 78) = W2 at *
          generalize wr.heap.size = lb at *
          generalize asgP (T.take k) = m at *
          clear d0 d1 d2 d3 d4 d5 d6
          go_loopg [6, 3] n (fun gg rv ov wq => ∃ j : Nat, j ≤ n ∧ gg = n - j ∧ rv = .int .i32 (x1 + j) ∧ Hid (AsgW w T (m ++ caseRows (x1, x2, x3, x4, x5, x6, x7) x1 j) ov wq ∧ LocL lb (x1, x2, x3, x4, x5, x6, x7) wq ∧ ov.ownBlock ≠ some lb))
          case atStart =>
            refine ⟨0, Nat.zero_le _, by omega, by simp, ⟨?_, HBa.out, by have := HLn.out; simp [caseRows]; omega⟩, HLL.out, fun e => by have := HOL.out lb e; omega⟩
            simpa [caseRows] using HOa.out
          case round =>
            clear HBa HOa HLL HOL
            obtain ⟨j, hj, hgj, rfl, HI⟩ := hrel
            have HGJ := hid hgj
            clear hgj
            obtain ⟨ao4, cap4, rfl⟩ := own_slice HI.out.1.own
            have HO4 := hid HI.out.1.own
            have HB4 := hid HI.out.1.bel
            have HL4 := hid HI.out.2.1
            have HNE := hid HI.out.2.2
            have hmj : (m ++ caseRows (x1, x2, x3, x4, x5, x6, x7) x1 j).length ≤ 4000 := HI.out.1.most
            obtain ⟨s0, s1, s2, s3, s4, s5, s6⟩ := HI.out.2.1
            simp only at s0 s1 s2 s3 s4 s5 s6
            clear HI
            by_cases hle : x1 + (j : Int) ≤ x2
            · have hjn : j < n := by omega
              have HSn := hid (case_snoc (x1, x2, x3, x4, x5, x6, x7) j x1)
              have HAL : Hid (m ++ caseRows (x1, x2, x3, x4, x5, x6, x7) x1 j ++ [⟨x1 + j, x1 + j, hasP (x1, x2, x3, x4, x5, x6, x7) (caseP (x1, x2, x3, x4, x5, x6, x7) (x1 + j))⟩] = m ++ caseRows (x1, x2, x3, x4, x5, x6, x7) x1 (j + 1)) := by
                show _ = _
                rw [HSn.out, List.append_assoc]
              have HM2 : Hid ((m ++ caseRows (x1, x2, x3, x4, x5, x6, x7) x1 (j + 1)).length ≤ 4000) := by
                show _ ≤ _
                have := HLn.out
                rw [List.length_append, case_len]; omega
              have er : Hid (x1 + (j : Int) + 1 = x1 + ((j + 1 : Nat) : Int)) := by show _ = _; omega
              have hr0 : 0 ≤ x1 + (j : Int) := by omega
              have hr1 : x1 + (j : Int) ≤ 1114111 := by omega
              have HCA := hid (caseAt_any wr.drew (x1, x2, x3, x4, x5, x6, x7) (x1 + j))
              have HHA := hid (fun w => has_any w (x1, x2, x3, x4, x5, x6, x7) (caseP (x1, x2, x3, x4, x5, x6, x7) (x1 + j)))
              simp only [lnv, cells7, trv] at HCA HHA
              generalize m ++ caseRows (x1, x2, x3, x4, x5, x6, x7) x1 j = out at *
              clear HSn
              go_wp2_with fail
              go_region_held3 (fun w' => w'.cell? ⟨lb, 0, none⟩ = some (.int .i32 x1) ∧ w'.cell? ⟨lb, 1, none⟩ = some (.int .i32 x2) ∧ w'.cell? ⟨lb, 2, none⟩ = some (.int .i64 x3) ∧ w'.cell? ⟨lb, 3, none⟩ = some (.int .i64 x4) ∧ w'.cell? ⟨lb, 4, none⟩ = some (.int .i64 x5) ∧ w'.cell? ⟨lb, 5, none⟩ = some (.int .i64 x6) ∧ w'.cell? ⟨lb, 6, none⟩ = some (.int .i64 x7))
                (first | exact ⟨s0, s1, s2, s3, s4, s5, s6⟩ | exact HLp.out | exact HLa.out | exact HLb.out _ | exact HLc.out)
                (first
                  | (go_at_call 29; refine HCA.out.mono ?_; rintro e w1 ⟨rfl, hb1⟩; have HLp : Hid (LocL lb _ w1) := (HL4.out.of_block (w' := wr.drew) rfl).step hb1; have HBp := hid (HB4.out.drew.trans (hb1.mono HB4.out.size)); have HOp := hid (own_below HO4.out.drew hb1); clear hb1)
                  | (go_at_call 28; refine (HHA.out _).mono ?_; rintro e w2 ⟨rfl, hb2⟩; have HLa : Hid (LocL lb _ w2) := HLp.out.step hb2; have HLb := hid (fun o => HLa.out.alloc o); have HB2 := hid (HBp.out.trans (hb2.mono HBp.out.size)); have HO2 := hid (own_below HOp.out hb2); clear hb2)
                  | (refine step_row7 rfl (.tmp 41) (.tmp 50) rfl w2 w.heap.size out.length (.slice ao4 out.length cap4) (out.flatMap tr7) ⟨x1 + j, x1 + j, hasP (x1, x2, x3, x4, x5, x6, x7) (caseP (x1, x2, x3, x4, x5, x6, x7) (x1 + j))⟩ rfl rfl HO2.out (by omega) HB2.out.size ?_; intro g2 cap3 w3 ho3 hg3 hl3; have HO3 := hid ho3; have HB3 := hid ((HB2.out.alloc HB2.out.size _).trans (below_of_grown hg3 _ (by simp; have := HB2.out.size; omega) (fun k e => (HO2.out.lt k e).1))); have HLc : Hid (LocL lb _ w3) := (HLb.out _).of_block (hg3.block lb (by simp; have := HLa.out.lt; omega) (fun e => HNE.out e.symm)); have HNE3 : Hid (Value.ownBlock (.slice (some ⟨g2, 0, none⟩) (out.length + 1) cap3) ≠ some lb) := (fun e => hl3.elim (fun e2 => HNE.out (e2.trans e)) (fun e2 => by have e3 := Option.some.inj e; have e4 := HLa.out.lt; simp only at e3; omega)); clear ho3 hg3 hl3))
              go_wp2_with fail
              go_roundg (n - (j + 1))
              case measure => rw [HGJ.out]; omega
              case rel => exact ⟨j + 1, by omega, rfl, by rw [← er.out], ⟨by rw [← HAL.out]; simpa [List.flatMap_append] using HO3.out, HB3.out, HM2.out⟩, HLc.out, HNE3.out⟩
            · have e : j = n := by omega
              subst e
              rw [← HN.out] at HO4 hmj
              rw [← HN.out]
              go_wp2_with fail
              go_roundg (T.length - (k + 1))
              case measure => rw [HG.out]; omega
              case rel => exact ⟨k + 1, by omega, rfl, by go_num, ⟨HO4.out, HB4.out, hmj⟩⟩
    · have e : k = T.length := by omega
      subst e
      have HF : Hid (AsgW w T (asgP T) (.slice ao2 (asgP T).length cap2) wr) := by
        have := H.out
        rw [List.take_length] at this; exact this
      rw [List.take_length]
      clear H HC HS
      go_wp2_with fail
      go_ret
      exact ⟨_, rfl, HF.out⟩
end Go.Proofs.Ytemdmalcoemhnab.Uc
