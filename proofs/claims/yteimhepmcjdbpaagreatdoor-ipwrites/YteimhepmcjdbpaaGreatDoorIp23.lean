import Derived.Test.YteimhepmcjdbpaaGreatDoorIp22
namespace Go.Proofs.YteimhepmcjdbpaaGreatDoor
open Go.RowKit
namespace Ip

theorem fu_good (l : List UInt8) (m : Nat) (hm : hxN (l.drop 1) = m) (h1 : 1 ≤ m) (a : UInt8) (t : List UInt8) (e : l = a :: t) (ha : a = 118 ∨ a = 86) (h : 2 + m < l.length) (h46 : l[1 + m] = 46) : fuB l = (l.drop (2 + m)).all plU := by
  have e1 : (l.drop 1).dropWhile hxB = l.drop (1 + m) := by rw [← List.drop_drop, ← hm]; exact dw_drop _
  have e2 : l.drop (1 + m) = 46 :: l.drop (2 + m) := by
    rw [List.drop_eq_getElem_cons (by omega), h46]
    have : 1 + m + 1 = 2 + m := by omega
    rw [this]
  have e3 : l.drop 1 = (l.drop 1).takeWhile hxB ++ 46 :: l.drop (2 + m) := by
    rw [← e2, ← e1, List.takeWhile_append_dropWhile]
  have e4 : l = a :: ((l.drop 1).takeWhile hxB ++ 46 :: l.drop (2 + m)) := by
    rw [← e3]; rw [e]; rfl
  refine fu_yes l a _ _ e4 ha (List.all_eq_true.2 fun x hx => ?_) ?_ ?_
  · exact List.all_eq_true.1 (List.all_takeWhile) x hx
  · intro e5
    have : hxN (l.drop 1) = 0 := by unfold hxN; rw [e5]; rfl
    omega
  · intro e5
    have := congrArg List.length e5
    rw [List.length_drop] at this; simp at this; omega
theorem pl_drop (s : ByteArray) (k : Nat) (h : k < s.size) : (s.data.toList.drop k).all plU = (plU s[k] && (s.data.toList.drop (k + 1)).all plU) := by
  rw [dropS s k h]; rfl

set_option maxRecDepth 100000 in
set_option maxHeartbeats 4000000 in
theorem rfut_any (s : ByteArray) (w : World) (hs : s.size ≤ 1000) :
    Calls Tryz.prog 12 #[.string s] w fun e w' => e = .returned (.bool (fuB s.data.toList)) ∧ w' = w := by
  have only : fuB s.data.toList = true → ∃ a d r, s.data.toList = a :: (d ++ 46 :: r) ∧ (a = 118 ∨ a = 86) ∧ d.all hxB = true ∧ d ≠ [] ∧ r ≠ [] ∧ r.all plU = true := fu_only _
  by_cases h4 : s.size < 4
  · have HF : Hid (fuB s.data.toList = false) := by
      show _ = _
      cases hf : fuB s.data.toList
      · rfl
      · obtain ⟨a, d, r, e, _, _, h2, h3, _⟩ := only hf
        have := congrArg List.length e
        rw [len_size] at this
        have h5 := List.length_pos_iff.2 h2
        have h6 := List.length_pos_iff.2 h3
        simp at this; omega
    clear only
    generalize fuB s.data.toList = v at *
    go_enter Tryz.func12, Tryz.ntmps12
    go_wp2_with fail
    go_ret
    exact ⟨ret_bool HF.out.symm, rfl⟩
  have h0 : 0 < s.size := by omega
  have hd0 := dropS s 0 h0
  rw [List.drop_zero] at hd0
  by_cases hv : s[0] = 118 ∨ s[0] = 86
  · have hmle := hxN_le (s.data.toList.drop 1)
    rw [List.length_drop, len_size] at hmle
    have HIN : Hid (∀ j, 1 ≤ j → j < 1 + hxN (s.data.toList.drop 1) → ∀ h : j < s.size, 0 ≤ valR (s[j].toNat : Int)) := by
      intro j h1 h2 h
      have := hxN_in (s.data.toList.drop 1) (j - 1) (by omega) (by rw [List.length_drop, len_size]; omega)
      rw [List.getElem_drop] at this
      have e : s.data.toList[1 + (j - 1)]'(by rw [len_size]; omega) = s[j] := by
        have e2 : 1 + (j - 1) = j := by omega
        simp only [e2]; rfl
      rw [e] at this
      exact of_decide_eq_true this
    have HAT : Hid (∀ h : 1 + hxN (s.data.toList.drop 1) < s.size, valR (s[1 + hxN (s.data.toList.drop 1)].toNat : Int) < 0) := by
      intro h
      have := hxN_at (s.data.toList.drop 1) (by rw [List.length_drop, len_size]; omega)
      rw [List.getElem_drop] at this
      have h2 : ¬ 0 ≤ valR (s[1 + hxN (s.data.toList.drop 1)].toNat : Int) := of_decide_eq_false this
      omega
    have HM : Hid (fuB s.data.toList = true → 1 ≤ hxN (s.data.toList.drop 1) ∧ 2 + hxN (s.data.toList.drop 1) < s.size ∧ ∃ h : 1 + hxN (s.data.toList.drop 1) < s.size, s[1 + hxN (s.data.toList.drop 1)] = 46) := by
      intro hf
      obtain ⟨a, d, r, e, _, hda, h2, h3, _⟩ := only hf
      have hm : hxN (s.data.toList.drop 1) = d.length := by rw [e]; exact hxN_of d r hda
      have hl := congrArg List.length e
      rw [len_size] at hl
      have h5 := List.length_pos_iff.2 h2
      have h6 := List.length_pos_iff.2 h3
      simp at hl
      rw [hm]
      refine ⟨by omega, by omega, by omega, ?_⟩
      have h7 : s.data.toList[1 + d.length]? = some 46 := by
        rw [e, Nat.add_comm, List.getElem?_cons_succ, List.getElem?_append_right (Nat.le_refl _)]; simp
      obtain ⟨_, hx⟩ := List.getElem?_eq_some_iff.1 h7
      exact hx
    have HG : Hid (∀ h : 1 ≤ hxN (s.data.toList.drop 1) ∧ 2 + hxN (s.data.toList.drop 1) < s.size ∧ ∃ h : 1 + hxN (s.data.toList.drop 1) < s.size, s[1 + hxN (s.data.toList.drop 1)] = 46, fuB s.data.toList = (s.data.toList.drop (2 + hxN (s.data.toList.drop 1))).all plU) := by
      rintro ⟨g1, g2, g3, g4⟩
      exact fu_good _ _ rfl g1 _ _ hd0 hv (by rw [len_size]; exact g2) g4
    have hb : (((s[0].toNat : Int) != 118) = false ∧ (s[0].toNat : Int) = 118) ∨ (((s[0].toNat : Int) != 118) = true ∧ ((s[0].toNat : Int) != 86) = false ∧ ¬ (s[0].toNat : Int) = 118) := by
      rcases hv with hv | hv
      · exact .inl (by rw [hv]; exact ⟨rfl, rfl⟩)
      · exact .inr (by rw [hv]; exact ⟨rfl, rfl, by decide⟩)
    clear only hd0 hv
    have h4' : ¬ (s.size : Int) < 4 := by omega
    generalize hxN (s.data.toList.drop 1) = m at *
    rcases hb with ⟨hb3, hb5⟩ | ⟨hb3, hb4, hb5⟩
    all_goals
      go_enter Tryz.func12, Tryz.ntmps12
      go_wp2_with fail
      go_loop [3] (fun i => ∃ j : Nat, i = .int .i64 j ∧ 1 ≤ j ∧ j ≤ 1 + m) (fun i => s.size - (intOf i).toNat)
      case atStart => exact ⟨1, rfl, by omega, by omega⟩
      case round =>
        obtain ⟨j, rfl, hj1, hj⟩ := hrel
        by_cases hjm : j < 1 + m
        · have hlt : j < s.size := by omega
          have hv := HIN.out j hj1 hjm hlt
          go_wp2_with (go_at_call 28; refine (rval_any _ _).mono ?_; rintro e w' ⟨rfl, rfl⟩)
          go_round
          case rel => exact ⟨j + 1, by go_num, by omega, by omega⟩
          case measure => simp [intOf]; omega
        · have hjm2 : j = 1 + m := by omega
          have hm2 : m = j - 1 := by omega
          by_cases hend : j < s.size
          · have hv : valR (s[j].toNat : Int) < 0 := by
              have h := HAT.out (hjm2 ▸ hend)
              simp only [hjm2]; exact h
            by_cases hgood : 1 ≤ m ∧ 2 + m < s.size ∧ s[j] = 46
            · obtain ⟨hm1, hm3, h46⟩ := hgood
              have HF : Hid (fuB s.data.toList = (s.data.toList.drop (j + 1)).all plU) := by
                show _ = _
                have := HG.out ⟨hm1, hm3, hjm2 ▸ hend, by have h := h46; simp only [hjm2] at h; exact h⟩
                rw [this, hjm2, show 1 + m + 1 = 2 + m by omega]
              have hj3 : ((j : Int) == 1) = false := by rw [beq_eq_false_iff_ne]; omega
              have hj4 : ¬ (s.size : Int) - 1 ≤ (j : Int) := by omega
              have hj5 : ((s[j].toNat : Int) != 46) = false := by rw [h46]; rfl
              have hj6 : j + 1 ≤ s.size := by omega
              clear hjm2 hm2 h46 hm3 hm1 hj hjm HIN HAT HM HG hmle
              go_wp2_with (go_at_call 28; refine (rval_any _ _).mono ?_; rintro e w' ⟨rfl, rfl⟩)
              go_loop [4] (fun i => ∃ k : Nat, i = .int .i64 k ∧ k ≤ s.size ∧ Hid (fuB s.data.toList = (s.data.toList.drop k).all plU)) (fun i => s.size - (intOf i).toNat)
              case atStart => exact ⟨j + 1, by go_num, hj6, HF⟩
              case round =>
                obtain ⟨k, rfl, hk, HQ⟩ := hrel
                by_cases hlt : k < s.size
                · have HP := hid (pl_drop s k hlt)
                  have HU := hid (plU_is s[k])
                  have hcn := byte_nn s[k]
                  have hcl := byte_le s[k]
                  by_cases hc1 : (bits .and .i64 (clsI (s[k].toNat : Int)) 15 == 0) = true
                  · by_cases hc2 : ((s[k].toNat : Int) != 58) = true
                    · have HF2 : Hid (fuB s.data.toList = false) := by
                        show _ = _
                        rw [HQ.out, HP.out, HU.out, hc1, hc2]; rfl
                      go_wp2_with (go_at_call 29; refine (rcls_any _ _ hcn hcl).mono ?_; rintro e w' ⟨rfl, rfl⟩)
                      go_ret
                      exact ⟨ret_bool HF2.out.symm, rfl⟩
                    · replace hc2 : ((s[k].toNat : Int) != 58) = false := by simpa using hc2
                      have HF2 : Hid (fuB s.data.toList = (s.data.toList.drop (k + 1)).all plU) := by
                        show _ = _
                        rw [HQ.out, HP.out, HU.out, hc1, hc2]; rfl
                      go_wp2_with (go_at_call 29; refine (rcls_any _ _ hcn hcl).mono ?_; rintro e w' ⟨rfl, rfl⟩)
                      go_round
                      case rel => exact ⟨k + 1, by go_num, by omega, HF2⟩
                      case measure => simp [intOf]; omega
                  · replace hc1 : (bits .and .i64 (clsI (s[k].toNat : Int)) 15 == 0) = false := by simpa using hc1
                    have HF2 : Hid (fuB s.data.toList = (s.data.toList.drop (k + 1)).all plU) := by
                      show _ = _
                      rw [HQ.out, HP.out, HU.out, hc1]; rfl
                    go_wp2_with (go_at_call 29; refine (rcls_any _ _ hcn hcl).mono ?_; rintro e w' ⟨rfl, rfl⟩)
                    go_round
                    case rel => exact ⟨k + 1, by go_num, by omega, HF2⟩
                    case measure => simp [intOf]; omega
                · have HF2 : Hid (fuB s.data.toList = true) := by
                    show _ = _
                    rw [HQ.out, List.drop_of_length_le (by rw [len_size]; omega)]; rfl
                  go_wp2_with fail
                  go_ret
                  exact ⟨ret_bool HF2.out.symm, rfl⟩
            · have HF : Hid (fuB s.data.toList = false) := by
                show _ = _
                cases hf : fuB s.data.toList
                · rfl
                · obtain ⟨h1, h2, h3, h5⟩ := HM.out hf
                  exact absurd ⟨h1, h2, by simp only [hjm2]; exact h5⟩ hgood
              by_cases hm1 : j = 1
              · have hj3 : ((j : Int) == 1) = true := by rw [hm1]; rfl
                clear hjm2 hm2 hgood hm1 hj hjm HIN HAT HM HG hmle
                go_wp2_with (go_at_call 28; refine (rval_any _ _).mono ?_; rintro e w' ⟨rfl, rfl⟩)
                go_ret
                exact ⟨ret_bool HF.out.symm, rfl⟩
              · have hj3 : ((j : Int) == 1) = false := by rw [beq_eq_false_iff_ne]; omega
                by_cases hm3 : (s.size : Int) - 1 ≤ (j : Int)
                · clear hjm2 hm2 hgood hm1 hj hjm HIN HAT HM HG hmle
                  go_wp2_with (go_at_call 28; refine (rval_any _ _).mono ?_; rintro e w' ⟨rfl, rfl⟩)
                  go_ret
                  exact ⟨ret_bool HF.out.symm, rfl⟩
                · have hj5 : ((s[j].toNat : Int) != 46) = true := by
                    rw [bne_iff_ne]
                    intro e
                    exact hgood ⟨by omega, by omega, UInt8.toNat_inj.1 (by simpa using Int.ofNat_inj.1 e)⟩
                  clear hjm2 hm2 hgood hm1 hj hjm HIN HAT HM HG hmle
                  go_wp2_with (go_at_call 28; refine (rval_any _ _).mono ?_; rintro e w' ⟨rfl, rfl⟩)
                  go_ret
                  exact ⟨ret_bool HF.out.symm, rfl⟩
          · have HF : Hid (fuB s.data.toList = false) := by
              show _ = _
              cases hf : fuB s.data.toList
              · rfl
              · obtain ⟨h1, h2, _⟩ := HM.out hf
                omega
            have hj2 : ¬ (j : Int) < (s.size : Int) := by omega
            have hj3 : ((j : Int) == 1) = false := by rw [beq_eq_false_iff_ne]; omega
            have hj4 : (s.size : Int) - 1 ≤ (j : Int) := by omega
            clear hjm2 hm2 hend HIN HAT HM HG hjm hj hmle
            go_wp2_with fail
            go_ret
            exact ⟨ret_bool HF.out.symm, rfl⟩
  · have HF : Hid (fuB s.data.toList = false) := by
      show _ = _
      cases hf : fuB s.data.toList
      · rfl
      · obtain ⟨a, d, r, e, ha, _⟩ := only hf
        rw [hd0] at e
        injection e with e1 _
        exact absurd (e1 ▸ ha) hv
    have hb1 : ((s[0].toNat : Int) == 118) = false := by
      rw [beq_eq_false_iff_ne]; intro e; exact hv (.inl (UInt8.toNat_inj.1 (by simpa using Int.ofNat_inj.1 e)))
    have hb2 : ((s[0].toNat : Int) == 86) = false := by
      rw [beq_eq_false_iff_ne]; intro e; exact hv (.inr (UInt8.toNat_inj.1 (by simpa using Int.ofNat_inj.1 e)))
    have hb3 : ((s[0].toNat : Int) != 118) = true := by rw [bne, hb1]; rfl
    have hb4 : ((s[0].toNat : Int) != 86) = true := by rw [bne, hb2]; rfl
    have hb5 : ¬ (s[0].toNat : Int) = 118 := by simpa using hb1
    have h4' : ¬ (s.size : Int) < 4 := by omega
    clear only hd0 hv
    generalize fuB s.data.toList = v at *
    go_enter Tryz.func12, Tryz.ntmps12
    go_wp2_with fail
    go_ret
    exact ⟨ret_bool HF.out.symm, rfl⟩
end Ip
end Go.Proofs.YteimhepmcjdbpaaGreatDoor
