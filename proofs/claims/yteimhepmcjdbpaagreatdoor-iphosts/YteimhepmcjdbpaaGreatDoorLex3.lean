import Derived.Test.YteimhepmcjdbpaaGreatDoorLex2
import Derived.Test.YteimhepmcjdbpaaGreatDoorUtf7
namespace Go.Proofs.YteimhepmcjdbpaaGreatDoor
open Go.RowKit
namespace Le

def okS (x : Int) : Bool := isB x 3 || inB x [43, 45, 46]

theorem cm_hit (r : Int) (k : Nat) (h0 : 1 ≤ k) (h1 : k ≤ 13) (h2 : (k : Int) * 65536 ≤ r) (h3 : r ≤ (k : Int) * 65536 + 65533) : cmB r = true := by
  unfold cmB
  rw [if_neg (by omega), if_pos (by omega), loI_is r (by omega) (by omega), decide_eq_true_eq]
  omega
theorem cm_miss (r : Int) (h0 : r < 160 ∨ (55295 < r ∧ r < 63744) ∨ (64975 < r ∧ r < 65008) ∨ 65519 < r) (h : ∀ j : Nat, 1 ≤ j → j < 14 → ¬ ((j : Int) * 65536 ≤ r ∧ r ≤ (j : Int) * 65536 + 65533)) : cmB r = wiB 921600 983037 r := by
  unfold cmB
  split
  · have e1 : wiB 160 55295 r = false := decide_eq_false (by omega)
    have e2 : wiB 63744 64975 r = false := decide_eq_false (by omega)
    have e3 : wiB 65008 65519 r = false := decide_eq_false (by omega)
    have e4 : wiB 921600 983037 r = false := decide_eq_false (by omega)
    rw [e1, e2, e3, e4]; rfl
  · split
    · rename_i h1 h2
      rw [loI_is r (by omega) (by omega)]
      have e4 : wiB 921600 983037 r = false := decide_eq_false (by omega)
      rw [e4, decide_eq_false_iff_not]
      have := h (r / 65536).toNat (by omega) (by omega)
      omega
    · rfl

set_option maxHeartbeats 1000000 in
theorem rcm_any (r : Int) (w : World) (hr0 : -2147483648 ≤ r) (hr1 : r ≤ 2147483647) :
    Calls Tryz.prog 94 #[.int .i64 r] w fun e w' => e = .returned (.bool (cmB r)) ∧ w' = w := by
  have yes : ((160 ≤ r ∧ r ≤ 55295) ∨ (63744 ≤ r ∧ r ≤ 64975) ∨ (65008 ≤ r ∧ r ≤ 65519)) → Hid (cmB r = true) := by
    intro h; show _ = _; unfold cmB; rw [if_pos (by omega)]
    rcases h with h | h | h
    · rw [show wiB 160 55295 r = true from decide_eq_true h]; rfl
    · rw [show wiB 63744 64975 r = true from decide_eq_true h]; simp
    · rw [show wiB 65008 65519 r = true from decide_eq_true h]; simp
  by_cases c1 : 160 ≤ r ∧ r ≤ 55295
  · have H := yes (.inl c1)
    obtain ⟨c1, c2⟩ := c1
    clear yes
    go_enter Tryz.func94, Tryz.ntmps94
    go_wp2
    go_ret
    exact ⟨ret_bool H.out.symm, rfl⟩
  by_cases c2 : 63744 ≤ r ∧ r ≤ 64975
  · have H := yes (.inr (.inl c2))
    have c3 : 160 ≤ r := by omega
    have c4 : ¬ r ≤ 55295 := by omega
    obtain ⟨c1, c2⟩ := c2
    clear yes
    go_enter Tryz.func94, Tryz.ntmps94
    go_wp2
    go_ret
    exact ⟨ret_bool H.out.symm, rfl⟩
  by_cases c3 : 65008 ≤ r ∧ r ≤ 65519
  · have H := yes (.inr (.inr c3))
    have d3 : 160 ≤ r := by omega
    have d4 : ¬ r ≤ 55295 := by omega
    have d5 : 63744 ≤ r := by omega
    have d6 : ¬ r ≤ 64975 := by omega
    obtain ⟨c1, c2⟩ := c3
    clear yes
    go_enter Tryz.func94, Tryz.ntmps94
    go_wp2
    go_ret
    exact ⟨ret_bool H.out.symm, rfl⟩
  have hp : r < 160 ∨ (55295 < r ∧ r < 63744) ∨ (64975 < r ∧ r < 65008) ∨ 65519 < r := by omega
  have HP := hid hp
  clear c1 c2 c3 yes
  rcases hp with hp | ⟨hp, hq⟩ | ⟨hp, hq⟩ | hp
  all_goals
    go_enter Tryz.func94, Tryz.ntmps94
    go_wp2
    go_loop [3] (fun i => ∃ k : Nat, 1 ≤ k ∧ k ≤ 14 ∧ i = .int .i64 k ∧ Hid (∀ j : Nat, 1 ≤ j → j < k → ¬ ((j : Int) * 65536 ≤ r ∧ r ≤ (j : Int) * 65536 + 65533))) (fun i => 14 - (intOf i).toNat)
    case atStart => exact ⟨1, by omega, by omega, rfl, fun j a b => by omega⟩
    case round =>
      obtain ⟨k, hk1, hk, rfl, hin⟩ := hrel
      by_cases hlt : k < 14
      · by_cases t1 : (k : Int) * 65536 ≤ r
        · by_cases t2 : r ≤ (k : Int) * 65536 + 65533
          · have H := hid (cm_hit r k hk1 (by omega) t1 t2)
            go_wp2
            all_goals
              go_ret
              exact ⟨ret_bool (by rw [H.out]), rfl⟩
          · have H : Hid (∀ j : Nat, 1 ≤ j → j < k + 1 → ¬ ((j : Int) * 65536 ≤ r ∧ r ≤ (j : Int) * 65536 + 65533)) := by
              intro j a b
              by_cases hj : j = k
              · subst hj; omega
              · exact hin.out j a (by omega)
            go_wp2
            all_goals
              go_round
              case rel => exact ⟨k + 1, by omega, by omega, by go_num, H⟩
              case measure => simp [intOf]; omega
        · have H : Hid (∀ j : Nat, 1 ≤ j → j < k + 1 → ¬ ((j : Int) * 65536 ≤ r ∧ r ≤ (j : Int) * 65536 + 65533)) := by
            intro j a b
            by_cases hj : j = k
            · subst hj; omega
            · exact hin.out j a (by omega)
          go_wp2
          all_goals
            go_round
            case rel => exact ⟨k + 1, by omega, by omega, by go_num, H⟩
            case measure => simp [intOf]; omega
      · have H : Hid (cmB r = wiB 921600 983037 r) := cm_miss r HP.out (fun j a b => hin.out j a (by omega))
        clear hin
        by_cases u1 : 921600 ≤ r
        · by_cases u2 : r ≤ 983037
          · go_wp2
            all_goals
              go_ret
              exact ⟨ret_bool (by rw [H.out]; exact dt ⟨u1, u2⟩), rfl⟩
          · go_wp2
            all_goals
              go_ret
              exact ⟨ret_bool (by rw [H.out]; exact df (by omega)), rfl⟩
        · go_wp2
          all_goals
            go_ret
            exact ⟨ret_bool (by rw [H.out]; exact df (by omega)), rfl⟩

set_option maxHeartbeats 400000 in
theorem rpv_any (r : Int) (w : World) :
    Calls Tryz.prog 95 #[.int .i64 r] w fun e w' => e = .returned (.bool (pvB r)) ∧ w' = w := by
  have E : pvB r = decide ((57344 ≤ r ∧ r ≤ 63743) ∨ (983040 ≤ r ∧ r ≤ 1048573) ∨ (1048576 ≤ r ∧ r ≤ 1114109)) := by
    unfold pvB wiB; rw [Bool.eq_iff_iff]; simp only [Bool.or_eq_true, decide_eq_true_eq]; omega
  have H := hid E
  clear E
  have hp : r < 57344 ∨ (57344 ≤ r ∧ r ≤ 63743) ∨ (63743 < r ∧ r < 983040) ∨ (983040 ≤ r ∧ r ≤ 1048573) ∨ (1048573 < r ∧ r < 1048576) ∨ (1048576 ≤ r ∧ r ≤ 1114109) ∨ 1114109 < r := by omega
  rcases hp with hp | ⟨hp, hq⟩ | ⟨hp, hq⟩ | ⟨hp, hq⟩ | ⟨hp, hq⟩ | ⟨hp, hq⟩ | hp
  all_goals
    go_enter Tryz.func95, Tryz.ntmps95
    go_wp2
    go_ret
    exact ⟨ret_bool (by rw [H.out]; first | exact dt (by omega) | exact df (by omega) | (rw [Bool.eq_iff_iff]; simp only [Bool.or_eq_true, decide_eq_true_eq]; omega)), rfl⟩

set_option maxHeartbeats 1000000 in
theorem rpl_any (p b : Int) (w : World) (h0 : 0 ≤ b) (h1 : b ≤ 255) :
    Calls Tryz.prog 93 #[.int .i64 p, .int .u8 b] w fun e w' => e = .returned (.bool (plB p b)) ∧ Below w.heap.size w w' := by
  have hok := Ok.start w
  cases k1 : plcB p
  · have H : Hid (plB p b = false) := by show _ = _; unfold plB; rw [k1]; rfl
    have hp : p < 1 ∨ 7 < p := by have := of_decide_eq_false k1; omega
    clear k1
    rcases hp with hp | hp
    all_goals
      go_enter Tryz.func93, Tryz.ntmps93
      go_wp2
      go_ret
      exact ⟨ret_bool H.out.symm, by first | exact hok.1 | exact hok.alloc.1⟩
  · cases k2 : isB b 15
    · have k3 : (bits BinOp.and IntKind.i64 (clsI b) 15 != 0) = false := k2
      rcases plc_ways p k1 with rfl | rfl | rfl | rfl | rfl | rfl | rfl
      all_goals
        have H := hid (show plB _ b = inB b _ by unfold plB; rw [k1, k2]; rfl)
        clear k1 k2
        go_enter Tryz.func93, Tryz.ntmps93
        go_wp2_with (first | (go_at_call 29; refine (rcls_any _ _ h0 h1).mono ?_; rintro e w' ⟨rfl, rfl⟩) | (go_at_call 24; refine (in_any _ _ _ (by decide)).mono ?_; rintro e w' ⟨rfl, rfl⟩))
        go_ret
        exact ⟨ret_bool (by rw [H.out]; rfl), by first | exact hok.1 | exact hok.alloc.1⟩
    · have k3 : (bits BinOp.and IntKind.i64 (clsI b) 15 != 0) = true := k2
      have H : Hid (plB p b = true) := by show _ = _; unfold plB; rw [k1, k2]; rfl
      have hp := of_decide_eq_true k1
      obtain ⟨hp1, hp2⟩ := hp
      clear k1 k2
      go_enter Tryz.func93, Tryz.ntmps93
      go_wp2_with (first | (go_at_call 29; refine (rcls_any _ _ h0 h1).mono ?_; rintro e w' ⟨rfl, rfl⟩))
      go_ret
      exact ⟨ret_bool H.out.symm, by first | exact hok.1 | exact hok.alloc.1⟩

theorem cmB_neg (r : Int) (h : r < 0) : cmB r = false := by
  unfold cmB
  rw [if_pos (by omega), show wiB 160 55295 r = false from decide_eq_false (by omega), show wiB 63744 64975 r = false from decide_eq_false (by omega), show wiB 65008 65519 r = false from decide_eq_false (by omega)]; rfl
theorem pvB_neg (r : Int) (h : r < 0) : pvB r = false := by
  unfold pvB
  rw [show wiB 57344 63743 r = false from decide_eq_false (by omega), show wiB 983040 1048573 r = false from decide_eq_false (by omega), show wiB 1048576 1114109 r = false from decide_eq_false (by omega)]; rfl
theorem maB_far (p : Int) (iri : Bool) (r : Int) (h : r < 0 ∨ 127 < r) : maB p iri r = (iri && plcB p && (cmB r || (decide (p = 6) && pvB r))) := by
  unfold maB
  by_cases h0 : r < 0
  · rw [if_pos h0, cmB_neg r h0, pvB_neg r h0]; simp
  · rw [if_neg h0, if_neg (by omega)]

set_option maxHeartbeats 1000000 in
theorem rma_any (p : Int) (iri : Bool) (r : Int) (w : World) (hr0 : -2147483648 ≤ r) (hr1 : r ≤ 2147483647) :
    Calls Tryz.prog 71 #[.int .i64 p, .bool iri, .int .i64 r] w fun e w' => e = .returned (.bool (maB p iri r)) ∧ Below w.heap.size w w' := by
  have hok := Ok.start w
  by_cases hin : 0 ≤ r ∧ r < 128
  · obtain ⟨h0, h1⟩ := hin
    have H : Hid (maB p iri r = plB p r) := by show _ = _; unfold maB; rw [if_neg (by omega), if_pos h1]
    have HP := hid (fun w => rpl_any p r w h0 (by omega))
    have e1 : r % 256 = r := by omega
    generalize plB p r = v at *
    go_enter Tryz.func71, Tryz.ntmps71
    go_wp2_with (first | (go_at_call 93; refine (HP.out _).mono ?_; rintro e w' ⟨rfl, hb'⟩; replace hok := hok.step hb'; clear hb'))
    go_ret
    exact ⟨ret_bool H.out.symm, hok.1⟩
  have hfar : r < 0 ∨ 127 < r := by omega
  have H := hid (maB_far p iri r hfar)
  clear hin
  have HC := hid (fun w => rcm_any r w hr0 hr1)
  rcases hfar with hf | hf
  all_goals
    cases iri
    · go_enter Tryz.func71, Tryz.ntmps71
      go_wp2
      go_ret
      exact ⟨ret_bool H.out.symm, hok.1⟩
    cases k1 : plcB p
    · have hp : p < 1 ∨ 7 < p := by have := of_decide_eq_false k1; omega
      have H' : Hid (maB p true r = false) := by show _ = _; rw [H.out, k1]; rfl
      clear k1 H
      rcases hp with hp | hp
      all_goals
        go_enter Tryz.func71, Tryz.ntmps71
        go_wp2
        go_ret
        exact ⟨ret_bool H'.out.symm, hok.1⟩
    have H' : Hid (maB p true r = (cmB r || (decide (p = 6) && pvB r))) := by show _ = _; rw [H.out, k1]; rfl
    have hp := of_decide_eq_true k1
    obtain ⟨hp1, hp2⟩ := hp
    clear k1 H
    cases k2 : cmB r
    · by_cases h6 : p = 6
      · subst h6
        go_enter Tryz.func71, Tryz.ntmps71
        go_wp2_with (first | (go_at_call 94; refine (HC.out _).mono ?_; rintro e w' ⟨rfl, rfl⟩) | (go_at_call 95; refine (rpv_any _ _).mono ?_; rintro e w' ⟨rfl, rfl⟩))
        go_ret
        exact ⟨ret_bool (by rw [H'.out, k2]; rfl), hok.1⟩
      · have h6' : (p == 6) = false := by simpa using h6
        have hd := hid (show decide (p = 6) = false from decide_eq_false h6)
        go_enter Tryz.func71, Tryz.ntmps71
        go_wp2_with (first | (go_at_call 94; refine (HC.out _).mono ?_; rintro e w' ⟨rfl, rfl⟩))
        go_ret
        exact ⟨ret_bool (by rw [H'.out, k2, hd.out]; rfl), hok.1⟩
    · go_enter Tryz.func71, Tryz.ntmps71
      go_wp2_with (first | (go_at_call 94; refine (HC.out _).mono ?_; rintro e w' ⟨rfl, rfl⟩))
      go_ret
      exact ⟨ret_bool (by rw [H'.out, k2]; rfl), hok.1⟩

theorem bel_drewN (w : World) (n : Nat) : Below w.heap.size w (w.drewN n) := ⟨rfl, rfl, rfl, Nat.le_refl _, fun _ _ => rfl⟩

theorem ratb_any (s : ByteArray) (k : Nat) (w : World) (hs : s.size ≤ maxLen) :
    Calls Tryz.prog 69 #[.string s, .int .i64 k] w fun e w' => e = .returned (.int .i64 (atL (s.data.toList.drop k))) ∧ Below w.heap.size w w' :=
  (rat_any s k w hs).mono fun _ _ ⟨h1, n, h2⟩ => ⟨h1, by rw [h2]; exact bel_drewN w n⟩

set_option maxHeartbeats 1000000 in
theorem rst_any (p : Int) (iri : Bool) (s : ByteArray) (k : Nat) (w : World) (hs : s.size ≤ maxLen) (hk : k ≤ s.size) :
    Calls Tryz.prog 52 #[.int .i64 p, .bool iri, .string s, .int .i64 k] w fun e w' => e = .returned (.int .i64 (if plcB p = true then stN p iri (s.data.toList.drop k) else 0 : Nat)) ∧ Below w.heap.size w w' := by
  have hok := Ok.start w
  have HS := hid hs
  cases k1 : plcB p
  · have hp : p < 1 ∨ 7 < p := by have := of_decide_eq_false k1; omega
    clear k1
    rcases hp with hp | hp
    all_goals
      go_enter Tryz.func52, Tryz.ntmps52
      go_wp2
      go_ret
      exact ⟨rfl, hok.1⟩
  have hp := of_decide_eq_true k1
  obtain ⟨hp1, hp2⟩ := hp
  rw [if_pos rfl]
  clear k1
  have HA := hid (fun w => ratb_any s k w HS.out)
  have hd := fun w => rdec_any (s.extract k s.size) w (by rw [ext_size]; have := HS.out; omega)
  rw [ext_end] at hd
  unfold gotV at hd
  unfold maxLen at hs
  by_cases h : 0 ≤ atL (s.data.toList.drop k)
  · have H : Hid (stN p iri (s.data.toList.drop k) = 3) := by show _ = _; unfold stN; rw [if_pos h]
    clear hd
    generalize stN p iri (s.data.toList.drop k) = v at *
    generalize atL (s.data.toList.drop k) = a at *
    go_enter Tryz.func52, Tryz.ntmps52
    go_wp2_with (first | (go_at_call 69; refine (HA.out _).mono ?_; rintro e w' ⟨rfl, hb'⟩; replace hok := hok.step hb'; clear hb'))
    go_ret
    exact ⟨ret_int (by rw [H.out]; rfl), hok.1⟩
  · have hR : (decR (s.data.toList.drop k) : Int) ≤ 1114111 := by
      unfold decR
      split
      · rename_i ho
        have := of_decide_eq_true (ok_facts _ ho).1
        omega
      · omega
    have HM := hid (fun w => rma_any p iri (decR (s.data.toList.drop k)) w (by omega) (by omega))
    cases ho : okL (s.data.toList.drop k)
    · have H : Hid (stN p iri (s.data.toList.drop k) = 0) := by show _ = _; unfold stN; rw [if_neg h, if_neg (by rw [ho]; simp)]
      rw [ho] at hd
      have HD := hid hd
      clear hd ho HM hR
      generalize stN p iri (s.data.toList.drop k) = v at *
      generalize atL (s.data.toList.drop k) = a at *
      go_enter Tryz.func52, Tryz.ntmps52
      go_wp2_with (first | (go_at_call 69; refine (HA.out _).mono ?_; rintro e w' ⟨rfl, hb'⟩; replace hok := hok.step hb'; clear hb') | (go_at_call 70; refine (HD.out _).mono ?_; rintro e w' ⟨rfl, hb'⟩; replace hok := hok.step hb'; clear hb'))
      go_ret
      exact ⟨ret_int (by rw [H.out]; rfl), hok.alloc.1⟩
    · have hn : decN (s.data.toList.drop k) = fit (s.data.toList.drop k) := by unfold decN; rw [if_neg (okL_ne ho)]
      cases hm : maB p iri (decR (s.data.toList.drop k))
      · have H : Hid (stN p iri (s.data.toList.drop k) = 0) := by show _ = _; unfold stN; rw [if_neg h, if_neg (by rw [hm]; simp)]
        rw [ho] at hd
        rw [hm] at HM
        have HD := hid hd
        clear hd ho hR hn hm
        generalize stN p iri (s.data.toList.drop k) = v at *
        generalize atL (s.data.toList.drop k) = a at *
        go_enter Tryz.func52, Tryz.ntmps52
        go_wp2_with (first | (go_at_call 69; refine (HA.out _).mono ?_; rintro e w' ⟨rfl, hb'⟩; replace hok := hok.step hb'; clear hb') | (go_at_call 70; refine (HD.out _).mono ?_; rintro e w' ⟨rfl, hb'⟩; replace hok := hok.step hb'; clear hb') | (go_at_call 71; refine (HM.out _).mono ?_; rintro e w' ⟨rfl, hb'⟩; replace hok := hok.alloc.step hb'; clear hb'))
        go_ret
        exact ⟨ret_int (by rw [H.out]; rfl), hok.1⟩
      · have H : Hid (stN p iri (s.data.toList.drop k) = decN (s.data.toList.drop k)) := by show _ = _; unfold stN; rw [if_neg h, if_pos ⟨ho, hm⟩, hn]
        rw [ho] at hd
        rw [hm] at HM
        have HD := hid hd
        clear hd ho hR hn hm
        generalize stN p iri (s.data.toList.drop k) = v at *
        generalize atL (s.data.toList.drop k) = a at *
        go_enter Tryz.func52, Tryz.ntmps52
        go_wp2_with (first | (go_at_call 69; refine (HA.out _).mono ?_; rintro e w' ⟨rfl, hb'⟩; replace hok := hok.step hb'; clear hb') | (go_at_call 70; refine (HD.out _).mono ?_; rintro e w1 ⟨rfl, hb'⟩; replace hok := hok.step hb'; clear hb'))
        refine (HM.out _).mono ?_
        rintro e w2 ⟨rfl, hb'⟩
        have c1 : w2.cell? ⟨w1.heap.size, 1, none⟩ = some (.int .i64 (decN (s.data.toList.drop k))) := (hb'.cell (p := ⟨w1.heap.size, 1, none⟩) (by simp)).trans (by rw [World.cell?_alloc_new]; rfl)
        replace hok := hok.alloc.step hb'
        clear hb'
        go_wp2_with fail
        go_ret
        exact ⟨ret_int (by rw [H.out]), hok.1⟩
end Le
end Go.Proofs.YteimhepmcjdbpaaGreatDoor
