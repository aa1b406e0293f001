import Derived.Test.YtfbphacbnmimkaaUcd20
namespace Go.Proofs.Ytfbphacbnmimkaa
open Go.RowKit

/-- The reference's next, from a place on. -/
def rnextP (k : Int) : Int → List Ln → Int
  | a, [] => if k = 0 ∧ a ≤ 1114111 then a else -1
  | a, x :: xs =>
    if x.2.1 < a then rnextP k a xs
    else if k = 0 ∧ a < x.1 then a
    else if 12 ≤ x.2.2.1 ∧ max a x.1 < x.2.1 ∧ rkindP x (max a x.1) ≠ k then (if rkindP x (max a x.1 + 1) = k then max a x.1 + 1 else rnextP k (x.2.1 + 1) xs)
    else (if rkindP x (max a x.1) = k then max a x.1 else rnextP k (x.2.1 + 1) xs)

set_option maxHeartbeats 4000000 in
set_option maxRecDepth 100000 in
theorem rnext_T {T : List Ln} (h0 : 0 < T.length) (hl : T.length ≤ 200) (hE : ∀ x ∈ T, Ends x) (w : World) (r kd : Int) (hr0 : -2147483648 ≤ r) (hr1 : r ≤ 2147483647) (hA : ∀ w : World, Calls Try.prog 33 #[] w fun e w' => ∃ v, e = .returned v ∧ w'.ownsRow w.heap.size 26 7 v T.length (T.flatMap rcells7) ∧ Below w.heap.size w w') :
    Calls Try.prog 19 #[.int .i64 r, .int .i64 kd] w fun e w' => e = .returned (.int .i64 (rnextP kd (max r 0) T)) ∧ Below w.heap.size w w' := by
  have HA := hid (hA w)
  have HE := hid hE
  clear hA hE
  go_enter Try.func19, Try.ntmps19
  go_wp2_with fail
  refine HA.out.mono ?_
  rintro e w1 ⟨v, rfl, ho1, hb1⟩
  obtain ⟨g, cap, rfl, hgl, hR⟩ := rlin_of_own ho1 h0
  have HB1 := hid hb1
  have HR := hid (And.intro hgl hR)
  clear ho1 hb1 HA hgl hR
  go_wp2_with fail
  go_loopg [7, 6] T.length (fun gg i av wr => ∃ (j : Nat) (a : Int), j ≤ T.length ∧ gg = T.length - j ∧ i = .int .i64 j ∧ av = .int .i64 a ∧ 0 ≤ a ∧ a ≤ 2147483647 ∧ Hid (rnextP kd (max r 0) T = rnextP kd a (T.drop j)) ∧ Hid (Below w1.heap.size w1 wr))
  case atStart => exact ⟨0, max r 0, Nat.zero_le _, by omega, rfl, rfl, by omega, by omega, rfl, Below.refl _ _⟩
  case round =>
    obtain ⟨j, a, hj, hg, rfl, rfl, ha0, ha1, H, HB⟩ := hrel
    have HG := hid hg
    clear hg
    by_cases hlt : j < T.length
    · have c := fun i hi => (HB.out.cell (p := ⟨g, j * 7 + i, none⟩) HR.out.1).trans (HR.out.2 j hlt i hi)
      have d0 := c 0 (by omega)
      have d1 := c 1 (by omega)
      have d2 := c 2 (by omega)
      have d3 := c 3 (by omega)
      have d4 := c 4 (by omega)
      have d5 := c 5 (by omega)
      have d6 := c 6 (by omega)
      have ⟨e0, e1, e2⟩ := HE.out T[j] (List.getElem_mem hlt)
      have b1 : (0 : Int) ≤ j ∧ (j : Int) < (T.length : Int) := by omega
      have HK := hid (fun w r => rkind_any w T[j] r)
      have H2 : Hid (rnextP kd (max r 0) T = rnextP kd a (T[j] :: T.drop (j + 1))) := by
        show _ = _
        rw [H.out, List.drop_eq_getElem_cons hlt]
      have hgl := hid HR.out.1
      clear c HR HE H
      generalize T[j] = x at *
      obtain ⟨x1, x2, x3, x4, x5, x6, x7⟩ := x
      simp only [rcells7, List.getElem?_cons_zero, List.getElem?_cons_succ, Nat.add_zero] at d0 d1 d2 d3 d4 d5 d6 e0 e1 e2
      simp only [rlv, rcells7] at HK
      by_cases hc : x2 < a
      · have H3 : Hid (rnextP kd (max r 0) T = rnextP kd a (T.drop (j + 1))) := by show _ = _; rw [H2.out, rnextP, if_pos hc]
        clear H2
        go_wp2_with fail
        go_roundg (T.length - (j + 1))
        case measure => rw [HG.out]; omega
        case rel => exact ⟨j + 1, a, by omega, rfl, by go_num, rfl, ha0, ha1, H3.out, HB.out⟩
      · by_cases hz : kd = 0 ∧ a < x1
        · have H3 : Hid (rnextP kd (max r 0) T = a) := by show _ = _; rw [H2.out, rnextP, if_neg hc, if_pos hz]
          clear H2
          obtain ⟨rfl, hz2⟩ := hz
          have HBE := hid (HB1.out.trans (HB.out.mono HB1.out.size))
          go_wp2_with fail
          go_ret
          exact ⟨ret_int H3.out.symm, HBE.out⟩
        · have H3 : Hid (rnextP kd (max r 0) T = if 12 ≤ x3 ∧ max a x1 < x2 ∧ rkindP (x1, x2, x3, x4, x5, x6, x7) (max a x1) ≠ kd then (if rkindP (x1, x2, x3, x4, x5, x6, x7) (max a x1 + 1) = kd then max a x1 + 1 else rnextP kd (x2 + 1) (T.drop (j + 1))) else (if rkindP (x1, x2, x3, x4, x5, x6, x7) (max a x1) = kd then max a x1 else rnextP kd (x2 + 1) (T.drop (j + 1)))) := by
            show _ = _
            rw [H2.out, rnextP, if_neg hc, if_neg hz]
          clear H2
          obtain ⟨a1, ha⟩ : ∃ a1, max a x1 = a1 := ⟨_, rfl⟩
          rw [ha] at H3
          have g0 : 0 ≤ a1 := by omega
          have g1 : a1 ≤ x2 := by omega
          have hzz : ¬ kd = 0 ∨ (kd = 0 ∧ x1 ≤ a) := by omega
          have HD : Hid (∀ wq : World, Below w1.heap.size w1 wq → wq.cell? ⟨g, j * 7, none⟩ = some (.int .i64 x1) ∧ wq.cell? ⟨g, j * 7 + 1, none⟩ = some (.int .i64 x2) ∧ wq.cell? ⟨g, j * 7 + 2, none⟩ = some (.int .i64 x3) ∧ wq.cell? ⟨g, j * 7 + 3, none⟩ = some (.int .i64 x4) ∧ wq.cell? ⟨g, j * 7 + 4, none⟩ = some (.int .i64 x5) ∧ wq.cell? ⟨g, j * 7 + 5, none⟩ = some (.int .i64 x6) ∧ wq.cell? ⟨g, j * 7 + 6, none⟩ = some (.int .i64 x7)) := fun wq hq => by
            have c := fun i v (h : wr.cell? ⟨g, j * 7 + i, none⟩ = some v) => (hq.cell (p := ⟨g, j * 7 + i, none⟩) hgl.out).trans ((HB.out.cell (p := ⟨g, j * 7 + i, none⟩) hgl.out).symm.trans h)
            exact ⟨c 0 _ d0, c 1 _ d1, c 2 _ d2, c 3 _ d3, c 4 _ d4, c 5 _ d5, c 6 _ d6⟩
          clear hz hgl
          by_cases hA : 12 ≤ x3 ∧ a1 < x2 ∧ rkindP (x1, x2, x3, x4, x5, x6, x7) a1 ≠ kd
          · by_cases hk2 : rkindP (x1, x2, x3, x4, x5, x6, x7) (a1 + 1) = kd
            · have H4 : Hid (rnextP kd (max r 0) T = a1 + 1) := by show _ = _; rw [H3.out, if_pos hA, if_pos hk2]
              obtain ⟨q1, q2, q3⟩ := hA
              have q4 : (rkindP (x1, x2, x3, x4, x5, x6, x7) a1 != kd) = true := by simpa using q3
              clear H3 q3
              rcases hzz with hz | ⟨rfl, hz⟩
              all_goals
                go_wp2_with (go_at_call 32; refine (HK.out _ _).mono ?_; rintro e w' ⟨rfl, hb'⟩; replace HB := hid (HB.out.trans (hb'.mono HB.out.size)); obtain ⟨d0, d1, d2, d3, d4, d5, d6⟩ := HD.out _ HB.out; clear hb')
                go_ret
                exact ⟨ret_int H4.out.symm, HB1.out.trans (HB.out.mono HB1.out.size)⟩
            · have H4 : Hid (rnextP kd (max r 0) T = rnextP kd (x2 + 1) (T.drop (j + 1))) := by show _ = _; rw [H3.out, if_pos hA, if_neg hk2]
              obtain ⟨q1, q2, q3⟩ := hA
              have q4 : (rkindP (x1, x2, x3, x4, x5, x6, x7) a1 != kd) = true := by simpa using q3
              clear H3 q3
              rcases hzz with hz | ⟨rfl, hz⟩
              all_goals
                go_wp2_with (go_at_call 32; refine (HK.out _ _).mono ?_; rintro e w' ⟨rfl, hb'⟩; replace HB := hid (HB.out.trans (hb'.mono HB.out.size)); obtain ⟨d0, d1, d2, d3, d4, d5, d6⟩ := HD.out _ HB.out; clear hb')
                go_roundg (T.length - (j + 1))
                case measure => rw [HG.out]; omega
                case rel => exact ⟨j + 1, x2 + 1, by omega, rfl, by go_num, rfl, by omega, by omega, H4.out, HB.out⟩
          · by_cases hk1 : rkindP (x1, x2, x3, x4, x5, x6, x7) a1 = kd
            · have H4 : Hid (rnextP kd (max r 0) T = a1) := by show _ = _; rw [H3.out, if_neg hA, if_pos hk1]
              have hB : x3 < 12 ∨ (12 ≤ x3 ∧ x2 ≤ a1) ∨ (12 ≤ x3 ∧ a1 < x2) := by omega
              have q4 : (rkindP (x1, x2, x3, x4, x5, x6, x7) a1 != kd) = false := by simpa using hk1
              clear H3 hA
              rcases hzz with hz | ⟨rfl, hz⟩ <;> rcases hB with q1 | ⟨q1, q2⟩ | ⟨q1, q2⟩
              all_goals
                go_wp2_with (go_at_call 32; refine (HK.out _ _).mono ?_; rintro e w' ⟨rfl, hb'⟩; replace HB := hid (HB.out.trans (hb'.mono HB.out.size)); obtain ⟨d0, d1, d2, d3, d4, d5, d6⟩ := HD.out _ HB.out; clear hb')
                go_ret
                exact ⟨ret_int H4.out.symm, HB1.out.trans (HB.out.mono HB1.out.size)⟩
            · have H4 : Hid (rnextP kd (max r 0) T = rnextP kd (x2 + 1) (T.drop (j + 1))) := by show _ = _; rw [H3.out, if_neg hA, if_neg hk1]
              have hB : x3 < 12 ∨ (12 ≤ x3 ∧ x2 ≤ a1) := by
                by_cases q1 : x3 < 12
                · exact .inl q1
                · exact .inr ⟨by omega, Int.not_lt.1 (fun q2 => hA ⟨by omega, q2, hk1⟩)⟩
              clear H3 hA
              rcases hzz with hz | ⟨rfl, hz⟩ <;> rcases hB with q1 | ⟨q1, q2⟩
              all_goals
                go_wp2_with (go_at_call 32; refine (HK.out _ _).mono ?_; rintro e w' ⟨rfl, hb'⟩; replace HB := hid (HB.out.trans (hb'.mono HB.out.size)); obtain ⟨d0, d1, d2, d3, d4, d5, d6⟩ := HD.out _ HB.out; clear hb')
                go_roundg (T.length - (j + 1))
                case measure => rw [HG.out]; omega
                case rel => exact ⟨j + 1, x2 + 1, by omega, rfl, by go_num, rfl, by omega, by omega, H4.out, HB.out⟩
    · have e : j = T.length := by omega
      subst e
      have HBE := hid (HB1.out.trans (HB.out.mono HB1.out.size))
      have H2 : Hid (rnextP kd (max r 0) T = if kd = 0 ∧ a ≤ 1114111 then a else -1) := by show _ = _; rw [H.out, List.drop_length]; rfl
      clear H HR HE HB HB1
      by_cases hz : kd = 0
      · subst hz
        by_cases hm : a ≤ 1114111
        · have H3 : Hid (rnextP 0 (max r 0) T = a) := by show _ = _; rw [H2.out, if_pos ⟨rfl, hm⟩]
          go_wp2_with fail
          go_ret
          exact ⟨ret_int H3.out.symm, HBE.out⟩
        · have H3 : Hid (rnextP 0 (max r 0) T = -1) := by show _ = _; rw [H2.out, if_neg (fun h => hm h.2)]
          go_wp2_with fail
          go_ret
          exact ⟨ret_int H3.out.symm, HBE.out⟩
      · have H3 : Hid (rnextP kd (max r 0) T = -1) := by show _ = _; rw [H2.out, if_neg (fun h => hz h.1)]
        go_wp2_with fail
        go_ret
        exact ⟨ret_int H3.out.symm, HBE.out⟩
end Go.Proofs.Ytfbphacbnmimkaa
