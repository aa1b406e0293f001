import Derived.Test.YtfbphacbnmimkabPr10
namespace Go.Proofs.Ytfbphacbnmimkab
open Go.RowKit Go.Lib

theorem rc4_at : ∀ (l : List S4) (j i : Nat) (h : j < l.length), i < 4 → (l.flatMap rc4)[j * 4 + i]? = (rc4 l[j])[i]?
  | [], _, _, h, _ => by simp at h
  | x :: l, 0, i, _, hi => by
    simp only [List.flatMap_cons, Nat.zero_mul, Nat.zero_add, List.getElem_cons_zero]
    rw [List.getElem?_append_left (by simp [rc4]; omega)]
  | x :: l, j + 1, i, h, hi => by
    have := rc4_at l j i (by simpa using h) hi
    rw [List.flatMap_cons, List.getElem?_append_right (by simp [rc4]; omega)]
    rw [show (j + 1) * 4 + i - (rc4 x).length = j * 4 + i by simp [rc4]; omega, this]
    rfl
theorem cell_new (w : World) (cs : Array Value) (t : TypeId) (b j : Nat) (hb : b = w.heap.size) : (w.alloc (.cells cs t)).cell? ⟨b, j, none⟩ = cs[j]? := by
  have h := heap_alloc_new w (.cells cs t)
  subst hb
  unfold World.cell?
  rw [h]; rfl
theorem shift_cells (w : World) (t : TypeId) (k : Nat) (hk : k < spanT.length) (i : Nat) (hi : i < 4) : (w.alloc (.cells rspC t)).cell? ⟨w.heap.size, k * 4 + i, none⟩ = (rc4 spanT[k])[i]? := by
  rw [cell_new _ _ _ _ _ rfl, rspC, List.getElem?_toArray, rc4_at spanT k i hk hi]

set_option maxHeartbeats 4000000 in
set_option maxRecDepth 100000 in
theorem rlow_any (r : Int) (w : World) (hr : I32 r) : Calls Try.prog 21 #[.int .i64 r] w fun e w' => e = .returned (.int .i64 (lowP r spanT)) ∧ Below w.heap.size w w' := by
  obtain ⟨r0, r1⟩ := hr
  have HS := hid (shifts_any w)
  have HI := hid (fun (w : World) (k : Nat) (hk : k < spanT.length) (i : Nat) (hi : i < 4) => shift_cells w 65 k hk i hi)
  have HB0 := hid span_bd
  have HLn := hid span_len
  have h27 : spanT.length ≤ 27 := by rw [span_len]; decide
  have hz := zero_rsp
  have HSt : Hid ((Try.prog.info? 65).map (·.size) = some rspC.size ∧ (z64 108).size = rspC.size ∧ rspC.all (·.oneCell') = true) := ⟨by kernel_rfl, by kernel_rfl, by kernel_rfl⟩
  generalize rspC = A at *
  generalize spanT = T at *
  go_enter Try.func21, Try.ntmps21
  go_wp2_with fail
  refine HS.out.mono ?_
  rintro e w1 ⟨rfl, hb1⟩
  have HB1 := hid (fun o => hb1.alloc hb1.size o)
  clear hb1 HS
  go_wp2_with (refine wpList_store_row rfl 65 (.tmp 3) (.tmp 5) rfl w1.heap.size A (by exact rfl) (by exact rfl) 65 (z64 108) (heap_alloc_new w1 _) HSt.out.1 HSt.out.2.1 HSt.out.2.2 ?_; rw [setRow_new])
  have HC := hid (HI.out w1)
  have HBW := hid (HB1.out (.cells A 65))
  have HLb : Hid (w1.heap.size < (w1.alloc (.cells A 65)).heap.size) := by show _ < _; simp
  clear HI HB1 hz
  generalize w1.alloc (.cells A 65) = W2 at *
  generalize w1.heap.size = lb at *
  go_loopg [4] 27 (fun g i wr => ∃ k : Nat, k ≤ 27 ∧ g = 27 - k ∧ i = .int .i64 k ∧ Hid (lowP r T = lowP r (T.drop k)) ∧ Hid (Below W2.heap.size W2 wr))
  case atStart => exact ⟨0, by omega, by omega, rfl, rfl, Below.refl _ _⟩
  case round =>
    obtain ⟨k, hk, hg, rfl, H, HB⟩ := hrel
    have HG := hid hg
    clear hg
    have HBE := hid (fun n => bel_dn (HBW.out.trans (HB.out.mono HBW.out.size)) n)
    have HBN := hid (fun n => bel_dn HB.out n)
    by_cases hlt : k < 27
    · have hlT : k < T.length := by have := HLn.out; omega
      have c := fun i hi => (HB.out.cell (p := ⟨lb, k * 4 + i, none⟩) HLb.out).trans (HC.out k hlT i hi)
      have d0 := c 0 (by omega)
      have d1 := c 1 (by omega)
      have d2 := c 2 (by omega)
      have d3 := c 3 (by omega)
      have ⟨e0, e1, e2, e3, e4, e5, e6, e7⟩ := HB0.out T[k] (List.getElem_mem hlT)
      have H2 : Hid (lowP r T = if T[k].1 ≤ r ∧ r ≤ T[k].2.1 ∧ (r - T[k].1) % T[k].2.2.1 = 0 then r + T[k].2.2.2 else lowP r (T.drop (k + 1))) := by
        show _ = _
        rw [H.out, List.drop_eq_getElem_cons hlT]; rfl
      have b1 : (0 : Int) ≤ k ∧ (k : Int) < 27 := by omega
      clear c HC HB0 H HB
      generalize T[k] = x at *
      obtain ⟨x1, x2, x3, x4⟩ := x
      simp only [rc4, List.getElem?_cons_zero, List.getElem?_cons_succ, Nat.add_zero] at d0 d1 d2 d3 e0 e1 e2 e3 e4 e5 e6 e7 H2
      have hx3 : ¬ x3 = 0 := by omega
      by_cases h1 : x1 ≤ r
      · by_cases h2 : r ≤ x2
        · have q1 : IntKind.i64.wrap (r - x1) = r - x1 := by rw [IntKind.wrap_i64]; omega
          have q0 : 0 ≤ r - x1 := by omega
          have q2 : (r - x1).tmod x3 = (r - x1) % x3 := Int.tmod_eq_emod_of_nonneg q0
          have q3 : IntKind.i64.wrap ((r - x1) % x3) = (r - x1) % x3 := by
            have := Int.emod_nonneg (r - x1) (show x3 ≠ 0 by omega)
            have := Int.emod_lt_of_pos (r - x1) (show 0 < x3 by omega)
            rw [IntKind.wrap_i64]; omega
          have t1 : decide (x1 ≤ r) = true := decide_eq_true h1
          have t2 : decide (r ≤ x2) = true := decide_eq_true h2
          by_cases h3 : (r - x1) % x3 = 0
          · have H3 : Hid (lowP r T = r + x4) := by show _ = _; rw [H2.out, if_pos ⟨h1, h2, h3⟩]
            go_wp2_with fail
            go_quiet (fail)
            go_wp2_with fail
            go_ret
            exact ⟨ret_int H3.out.symm, HBE.out _⟩
          · have H3 : Hid (lowP r T = lowP r (T.drop (k + 1))) := by show _ = _; rw [H2.out, if_neg (fun h => h3 h.2.2)]
            have h3' : ((r - x1) % x3 == 0) = false := by simpa using h3
            go_wp2_with fail
            go_quiet (fail)
            go_wp2_with fail
            go_roundg (27 - (k + 1))
            case measure => rw [HG.out]; omega
            case rel => exact ⟨k + 1, by omega, rfl, by go_num, H3.out, HBN.out _⟩
        · have H3 : Hid (lowP r T = lowP r (T.drop (k + 1))) := by show _ = _; rw [H2.out, if_neg (fun h => h2 h.2.1)]
          have t1 : decide (x1 ≤ r) = true := decide_eq_true h1
          have t2 : decide (r ≤ x2) = false := decide_eq_false h2
          go_wp2_with fail
          go_quiet (fail)
          go_wp2_with fail
          go_roundg (27 - (k + 1))
          case measure => rw [HG.out]; omega
          case rel => exact ⟨k + 1, by omega, rfl, by go_num, H3.out, HBN.out _⟩
      · have H3 : Hid (lowP r T = lowP r (T.drop (k + 1))) := by show _ = _; rw [H2.out, if_neg (fun h => h1 h.1)]
        have t1 : decide (x1 ≤ r) = false := decide_eq_false h1
        go_wp2_with fail
        go_quiet (fail)
        go_wp2_with fail
        go_roundg (27 - (k + 1))
        case measure => rw [HG.out]; omega
        case rel => exact ⟨k + 1, by omega, rfl, by go_num, H3.out, HBN.out _⟩
    · have H3 : Hid (lowP r T = r) := by show _ = _; rw [H.out, List.drop_of_length_le (by omega)]; rfl
      go_wp2_with fail
      go_ret
      exact ⟨ret_int H3.out.symm, HBE.out 0⟩

set_option maxHeartbeats 2000000 in
theorem rwid_any (r : Int) (w : World) (hr : I32 r) : Calls Try.prog 22 #[.int .i64 r] w fun e w' => e = .returned (.int .i64 (widP r)) ∧ Below w.heap.size w w' := by
  obtain ⟨r0, r1⟩ := hr
  have HK := hid (rkana_any w)
  have hok := Ok.start w
  by_cases h1 : 65281 ≤ r ∧ r ≤ 65374
  · have H : Hid (widP r = r - 65281 + 33) := if_pos h1
    obtain ⟨h1, h2⟩ := h1
    go_enter Try.func22, Try.ntmps22
    go_wp2_with fail
    go_ret
    exact ⟨ret_int H.out.symm, hok.1⟩
  by_cases h2 : r = 65377
  · have H : Hid (widP r = 12290) := by subst h2; rfl
    clear h1
    subst h2
    go_enter Try.func22, Try.ntmps22
    go_wp2_with fail
    go_ret
    exact ⟨ret_int H.out.symm, hok.1⟩
  by_cases h3 : r = 65381
  · have H : Hid (widP r = 12539) := by subst h3; rfl
    clear h1 h2
    subst h3
    go_enter Try.func22, Try.ntmps22
    go_wp2_with fail
    go_ret
    exact ⟨ret_int H.out.symm, hok.1⟩
  by_cases h4 : 65382 ≤ r ∧ r ≤ 65439
  · obtain ⟨k, hk⟩ : ∃ k : Nat, r - 65382 = k := ⟨(r - 65382).toNat, by omega⟩
    have hk1 : k < 58 := by omega
    have hk2 : k < kanaT.length := hk1
    have H : Hid (widP r = kanaT[k]) := by
      show widP r = _
      unfold widP
      rw [if_neg h1, if_neg h2, if_neg h3, if_pos h4, hk, Int.toNat_natCast, List.getD_eq_getElem?_getD, List.getElem?_eq_getElem hk2]; rfl
    have hix := fun w => index_rkana w k hk1 hk2
    obtain ⟨h5, h6⟩ := h4
    have h7 : ¬ r ≤ 65374 := by omega
    have h8 : 65281 ≤ r := by omega
    clear h1
    generalize kanaT[k] = v at *
    generalize rkaC = A at *
    go_enter Try.func22, Try.ntmps22
    go_wp2_with (go_at_call 36; refine HK.out.mono ?_; rintro e w1 ⟨rfl, hb1⟩; replace hok := hok.step hb1; clear hb1)
    go_ret
    exact ⟨ret_int H.out.symm, hok.1⟩
  · have H : Hid (widP r = r) := by show widP r = r; unfold widP; rw [if_neg h1, if_neg h2, if_neg h3, if_neg h4]
    have hc : r < 65281 ∨ (65281 ≤ r ∧ 65374 < r ∧ r < 65382) ∨ (65382 ≤ r ∧ 65439 < r) := by omega
    have h2' : (r == 65377) = false := by simpa using h2
    have h3' : (r == 65381) = false := by simpa using h3
    clear h1 h4
    rcases hc with h | ⟨h, h', h''⟩ | ⟨h, h'⟩
    all_goals
      go_enter Try.func22, Try.ntmps22
      go_wp2_with fail
      go_ret
      exact ⟨ret_int H.out.symm, hok.1⟩
end Go.Proofs.Ytfbphacbnmimkab
