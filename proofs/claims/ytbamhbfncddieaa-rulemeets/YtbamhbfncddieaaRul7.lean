import Derived.Test.YtbamhbfncddieaaRul6
namespace Go.Proofs.Ytbamhbfncddieaa
namespace Ru
open Go.RowKit Od

set_option maxHeartbeats 2000000 in
theorem ints13_any (v : Value) (zs : List Int) (w : World) (h : Sl .i32 w v zs) (hn : zs.length ≤ 1000000) (hz : ∀ z ∈ zs, -2147483648 ≤ z ∧ z ≤ 2147483647) :
    Calls Try.prog 20 #[v] w fun e w' => ∃ v', e = .returned v' ∧ Sn .i64 w' v' zs ∧ Below w.heap.size w w' := by
  obtain ⟨ao, cap, rfl, h⟩ := h
  have HS := hr h
  have HZ := hr hz
  clear h hz
  have HO : Hid ((w.alloc (.cells #[] 3)).ownsRow w.heap.size 3 1 (.slice (some ⟨w.heap.size, 0, none⟩) 0 0) 0 []) := World.ownsRow_made w #[] 0 (Nat.le_refl _) (by unfold maxLen; omega) rfl
  have hok := hr ((Ok.start w).alloc (o := .cells #[] 3))
  go_enter Try.func20, Try.ntmps20
  go_wp2_with fail
  go_loopg [3, 5, 9] zs.length (fun g vo _ vi wr => ∃ k : Nat, vi = .int .i64 k ∧ k ≤ zs.length ∧ g = zs.length - k ∧ Hid (wr.ownsRow w.heap.size 3 1 vo k (ivs .i64 (zs.take k)) ∧ Ok w.heap.size w wr ∧ isSome vo))
  case atStart => exact ⟨0, rfl, Nat.zero_le _, rfl, HO.out, hok.out, trivial⟩
  case round =>
    obtain ⟨k, rfl, hk, hg, H⟩ := hrel
    have HG := hr hg
    clear hg HO hok
    by_cases hlt : k < zs.length
    · obtain ⟨b, off, rfl, hb, hc⟩ := HS.out.at_ k hlt
      have hc' := (H.out.2.1.1.cell (p := ⟨b, off + k, none⟩) hb).trans hc
      have hzk := HZ.out zs[k] (List.getElem_mem hlt)
      have HT : Hid (ivs .i64 (zs.take (k + 1)) = ivs .i64 (zs.take k) ++ [.int .i64 zs[k]]) := by show _ = _; rw [List.take_succ_eq_append_getElem hlt, ivs_snoc]
      clear hc
      generalize zs[k] = z at *
      have hwz : IntKind.i64.wrap z = z := by rw [IntKind.wrap_i64]; omega
      go_wp2_with (at_builtin; refine app_i64 rfl (.tmp 13) (.tmp 16) rfl wr w.heap.size k _ _ z rfl wr.heap.size rfl rfl H.out.1 (by omega) H.out.2.1.2 (fun v' w' h1 h2 => ?_))
      have H2 : Hid (w'.ownsRow w.heap.size 3 1 v' (k + 1) (ivs .i64 (zs.take (k + 1))) ∧ Ok w.heap.size w w' ∧ isSome v') := by
        refine ⟨by rw [HT.out]; exact h1, ok_below h2 H.out.2.1, own_some h1 (Nat.succ_pos k)⟩
      clear h1 h2
      go_roundg (zs.length - (k + 1))
      case measure => rw [HG.out]; omega
      case rel => exact ⟨k + 1, by go_num, by omega, rfl, H2.out⟩
    · have e : k = zs.length := by omega
      subst e
      go_wp2_with fail
      go_ret
      refine ⟨_, rfl, (own_sl (B := w.heap.size) (e := 3) ?_).sn H.out.2.2, H.out.2.1.1⟩
      have := H.out.1
      rwa [List.take_length] at this

theorem sc_row (r : Int) : scP r = (Uc.rrowP r).2.2.2.2.1 := by
  unfold scP
  rw [Uc.book_tells r]
  rfl
theorem cl_row (r : Int) : clsP r = (Uc.rrowP r).2.2.2.2.2.1 := by
  unfold clsP
  rw [Uc.book_tells r]
  rfl
theorem jn_row (r : Int) : jnP r = (Uc.rrowP r).2.2.2.2.2.2 := by
  unfold jnP
  rw [Uc.book_tells r]
  rfl
theorem row_any (r : Int) (w : World) : Calls Try.prog 74 #[.int .i64 r] w fun e w' => ∃ x1 x2 x3 x4 : Int, e = .returned (.agg #[.int .i64 x1, .int .i64 x2, .int .i64 x3, .int .i64 x4, .int .i64 (scP r), .int .i64 (clsP r), .int .i64 (jnP r)]) ∧ Below w.heap.size w w' := by
  refine (Uc.rrow_any r w).mono ?_
  rintro e w' ⟨rfl, hb⟩
  rw [sc_row, cl_row, jn_row]
  exact ⟨_, _, _, _, rfl, hb⟩
theorem idx7 (x1 x2 x3 x4 x5 x6 x7 : Int) (w : World) : (Instr.index 118 (.agg #[.int .i64 x1, .int .i64 x2, .int .i64 x3, .int .i64 x4, .int .i64 x5, .int .i64 x6, .int .i64 x7]) (.int .i64 4)).run Try.prog w = .ok (.int .i64 x5) w ∧ (Instr.index 118 (.agg #[.int .i64 x1, .int .i64 x2, .int .i64 x3, .int .i64 x4, .int .i64 x5, .int .i64 x6, .int .i64 x7]) (.int .i64 5)).run Try.prog w = .ok (.int .i64 x6) w ∧ (Instr.index 118 (.agg #[.int .i64 x1, .int .i64 x2, .int .i64 x3, .int .i64 x4, .int .i64 x5, .int .i64 x6, .int .i64 x7]) (.int .i64 6)).run Try.prog w = .ok (.int .i64 x7) w := by
  obtain ⟨i0, hi, hz0, hz1, hz2⟩ := info_parts Try.info_i64
  have h := fun (i : Nat) (hl : i < 7) => run_index_agg (P := Try.prog) w 118 3 7 i0 #[.int .i64 x1, .int .i64 x2, .int .i64 x3, .int .i64 x4, .int .i64 x5, .int .i64 x6, .int .i64 x7] .i64 i Try.underlying118 hi hl
  refine ⟨(h 4 (by omega)).trans ?_, (h 5 (by omega)).trans ?_, (h 6 (by omega)).trans ?_⟩
  all_goals
    rw [hz1]
    simp [part, isAgg, run_underlying Try.underlying3]
/-- The reference's script of a place. -/
def rsI (X : List Int) (i : Int) : Int := if 0 ≤ i ∧ i < X.length then scP (X.getD i.toNat 0) else -1
set_option maxRecDepth 100000 in
set_option maxHeartbeats 2000000 in
theorem rsc_any {w : World} {v : Value} {X : List Int} (h : Sl .i64 w v X) (i : Int) :
    Calls Try.prog 46 #[v, .int .i64 i] w fun e w' => e = .returned (.int .i64 (rsI X i)) ∧ Below w.heap.size w w' := by
  obtain ⟨ao, cap, rfl, h⟩ := h
  have HS := hr h
  clear h
  by_cases h0 : i < 0
  · have HE : Hid (rsI X i = -1) := if_neg (by omega)
    go_enter Try.func46, Try.ntmps46
    go_wp2_with fail
    go_ret
    exact ⟨ret_int HE.out.symm, Below.refl _ _⟩
  · by_cases h1 : (X.length : Int) ≤ i
    · have HE : Hid (rsI X i = -1) := if_neg (by omega)
      generalize hlen : X.length = len at *
      clear hlen
      go_enter Try.func46, Try.ntmps46
      go_wp2_with fail
      go_ret
      exact ⟨ret_int HE.out.symm, Below.refl _ _⟩
    · obtain ⟨k, rfl⟩ : ∃ k : Nat, i = k := ⟨i.toNat, by omega⟩
      have hlx : k < X.length := by omega
      have HE : Hid (rsI X (k : Int) = scP X[k]) := by
        show _ = _
        unfold rsI
        rw [if_pos (by omega), Int.toNat_natCast, List.getD_eq_getElem?_getD, List.getElem?_eq_getElem hlx]
        rfl
      obtain ⟨b, off, rfl, hb, c1⟩ := HS.out.at_ k hlx
      have z1 : (k : Int) < (X.length : Int) := by omega
      have HR := hr (row_any X[k] w)
      generalize X[k] = x at *
      generalize hlen : X.length = len at *
      clear hlen
      go_enter Try.func46, Try.ntmps46
      go_wp2_with fail
      refine HR.out.mono ?_
      rintro e w1 ⟨x1, x2, x3, x4, rfl, hb1⟩
      have hx := (idx7 x1 x2 x3 x4 (scP x) (clsP x) (jnP x) w1).1
      have HB := hr hb1
      clear hb1
      go_wp2_with fail
      go_ret
      exact ⟨ret_int HE.out.symm, HB.out⟩
set_option maxRecDepth 100000 in
set_option maxHeartbeats 2000000 in
theorem rvir_any {w : World} {v : Value} {X : List Int} (h : Sl .i64 w v X) (hn : X.length ≤ 1000000) (i : Nat) (hi : i < X.length) :
    Calls Try.prog 45 #[v, .int .i64 i] w fun e w' => e = .returned (.bool (hdB (fun x => clsP x == 9) (X.take i).reverse)) ∧ Below w.heap.size w w' := by
  obtain ⟨ao, cap, rfl, h⟩ := h
  have HS := hr h
  clear h
  cases i with
  | zero =>
    have HE : Hid (hdB (fun x => clsP x == 9) (X.take 0).reverse = false) := rfl
    have e0 : ((0 : Nat) : Int) = 0 := rfl
    rw [e0]
    clear e0
    go_enter Try.func45, Try.ntmps45
    go_wp2_with fail
    go_ret
    exact ⟨ret_bool HE.out.symm, Below.refl _ _⟩
  | succ m =>
    have hlx : m < X.length := by omega
    have HE : Hid (hdB (fun x => clsP x == 9) (X.take (m + 1)).reverse = (clsP X[m] == 9)) := by
      show _ = _
      rw [take_rev X m hlx, hdB_cons]
    obtain ⟨b, off, rfl, hb, c1⟩ := HS.out.at_ m hlx
    have z1 : (m : Int) < (X.length : Int) := by omega
    have z2 : (0 : Int) < ((m + 1 : Nat) : Int) := by omega
    have z3 : IntKind.i64.wrap (((m + 1 : Nat) : Int) - 1) = (m : Int) := by rw [IntKind.wrap_i64]; omega
    have z4 : ((m + 1 : Nat) : Int) - 1 = (m : Int) := by omega
    have HR := hr (row_any X[m] w)
    generalize X[m] = x at *
    generalize hlen : X.length = len at *
    clear hlen
    generalize hI : ((m + 1 : Nat) : Int) = I at *
    clear hI
    go_enter Try.func45, Try.ntmps45
    go_wp2_with fail
    refine HR.out.mono ?_
    rintro e w1 ⟨x1, x2, x3, x4, rfl, hb1⟩
    have hx := (idx7 x1 x2 x3 x4 (scP x) (clsP x) (jnP x) w1).2.1
    have HB := hr hb1
    clear hb1
    go_wp2_with fail
    go_ret
    exact ⟨ret_bool HE.out.symm, HB.out⟩
/-- How the next one joins that doesn't join through. -/
def jnF : List Int → Int
  | [] => -1
  | x :: l => if jnP x = 4 then jnF l else jnP x
theorem jnF_two : ∀ l : List Int, asF (fun x => decide (jnP x ∈ [4])) (fun x => decide (jnP x ∈ [2])) l = (jnF l == 2)
  | [] => rfl
  | x :: l => by
    rw [asF, jnF]
    by_cases h : jnP x = 4
    · rw [if_pos (by simp [h]), if_pos h, jnF_two l]
    · rw [if_neg (by simp [h]), if_neg h, Bool.eq_iff_iff]
      simp
theorem jnF_three : ∀ l : List Int, asF (fun x => decide (jnP x ∈ [4])) (fun x => decide (jnP x ∈ [2, 3])) l = (jnF l == 2 || jnF l == 3)
  | [] => rfl
  | x :: l => by
    rw [asF, jnF]
    by_cases h : jnP x = 4
    · rw [if_pos (by simp [h]), if_pos h, jnF_three l]
    · rw [if_neg (by simp [h]), if_neg h, Bool.eq_iff_iff]
      simp
set_option maxRecDepth 100000 in
set_option maxHeartbeats 4000000 in
theorem rjup_any {w : World} {v : Value} {X : List Int} (h : Sl .i64 w v X) (hn : X.length ≤ 1000000) (i : Nat) (hi : i < X.length) :
    Calls Try.prog 44 #[v, .int .i64 i, .bool true] w fun e w' => e = .returned (.int .i64 (jnF (X.drop (i + 1)))) ∧ Below w.heap.size w w' := by
  obtain ⟨ao, cap, rfl, h⟩ := h
  have HS := hr h
  have H0 := hr (Ok.start w)
  clear h
  generalize hlen : X.length = len at *
  have HLn := hr hlen
  clear hlen
  go_enter Try.func44, Try.ntmps44
  go_wp2_with fail
  go_loopg [7] (len - i) (fun gg vi wr => ∃ m : Nat, vi = .int .i64 (m : Int) ∧ m < len ∧ gg = len - m ∧ Hid (jnF (X.drop (i + 1)) = jnF (X.drop (m + 1)) ∧ Ok w.heap.size w wr))
  case atStart => exact ⟨i, rfl, hi, rfl, rfl, H0.out⟩
  case round =>
    obtain ⟨m, rfl, hm, hg, H⟩ := hrel
    have HG := hr hg
    clear hg H0
    have z0 : ¬ (m : Int) + 1 < 0 := by omega
    by_cases hlt : m + 1 < len
    · have hlx : m + 1 < X.length := by rw [HLn.out]; exact hlt
      obtain ⟨b, off, rfl, hb, c1⟩ := HS.out.at_ (m + 1) hlx
      have d1 := (H.out.2.1.cell (p := ⟨b, off + (m + 1), none⟩) hb).trans c1
      have HE : Hid (jnF (X.drop (i + 1)) = if jnP X[m + 1] = 4 then jnF (X.drop (m + 1 + 1)) else jnP X[m + 1]) := by
        show _ = _
        rw [H.out.1, List.drop_eq_getElem_cons hlx]; rfl
      have HR := hr (row_any X[m + 1] wr)
      generalize X[m + 1] = x at *
      clear c1
      obtain ⟨M, hM⟩ : ∃ M : Nat, m + 1 = M := ⟨_, rfl⟩
      have hMi : (m : Int) + 1 = (M : Int) := by omega
      rw [hM] at d1 HE
      have z1 : (M : Int) < (len : Int) := by omega
      have z2 : ¬ (M : Int) < 0 := by omega
      have z3 : ¬ (len : Int) ≤ (M : Int) := by omega
      have HMi := hr hM
      clear hM z0
      go_wp2_with fail
      refine HR.out.mono ?_
      rintro e w1 ⟨x1, x2, x3, x4, rfl, hb1⟩
      have hx := (idx7 x1 x2 x3 x4 (scP x) (clsP x) (jnP x) w1).2.2
      have H1 := hr (H.out.2.step hb1)
      clear hb1 HR
      generalize jnP x = jj at *
      by_cases hj : jj = 4
      · rw [if_pos hj] at HE
        subst hj
        go_wp2_with fail
        go_roundg (len - M)
        case measure => rw [HG.out]; have := HMi.out; omega
        case rel => exact ⟨M, by go_num, by omega, rfl, HE.out, H1.out⟩
      · rw [if_neg hj] at HE
        have hj2 : (jj == 4) = false := beq_eq_false_iff_ne.2 hj
        have hj3 : (jj != 4) = true := bne_iff_ne.2 hj
        go_wp2_with fail
        try rw [Exit.noGoto_ret]
        go_ret
        exact ⟨ret_int HE.out.symm, H1.out.1⟩
    · have HE : Hid (jnF (X.drop (i + 1)) = -1) := by show _ = _; rw [H.out.1, List.drop_eq_nil_of_le (by rw [HLn.out]; omega)]; rfl
      have z1 : (len : Int) ≤ (m : Int) + 1 := by omega
      go_wp2_with fail
      try rw [Exit.noGoto_ret]
      go_ret
      exact ⟨ret_int HE.out.symm, H.out.2.1⟩
set_option maxRecDepth 100000 in
set_option maxHeartbeats 4000000 in
theorem rjdn_any {w : World} {v : Value} {X : List Int} (h : Sl .i64 w v X) (hn : X.length ≤ 1000000) (i : Nat) (hi : i < X.length) :
    Calls Try.prog 44 #[v, .int .i64 i, .bool false] w fun e w' => e = .returned (.int .i64 (jnF (X.take i).reverse)) ∧ Below w.heap.size w w' := by
  obtain ⟨ao, cap, rfl, h⟩ := h
  have HS := hr h
  have H0 := hr (Ok.start w)
  clear h
  generalize hlen : X.length = len at *
  have HLn := hr hlen
  clear hlen
  go_enter Try.func44, Try.ntmps44
  go_wp2_with fail
  go_loopg [7] i (fun gg vi wr => ∃ m : Nat, vi = .int .i64 (m : Int) ∧ m ≤ i ∧ gg = m ∧ Hid (jnF (X.take i).reverse = jnF (X.take m).reverse ∧ Ok w.heap.size w wr))
  case atStart => exact ⟨i, rfl, Nat.le_refl _, rfl, rfl, H0.out⟩
  case round =>
    obtain ⟨m, rfl, hm, hg, H⟩ := hrel
    have HG := hr hg
    clear hg H0
    cases m with
    | zero =>
      have HE : Hid (jnF (X.take i).reverse = -1) := by show _ = _; rw [H.out.1]; rfl
      have e0 : ((0 : Nat) : Int) = 0 := rfl
      rw [e0]
      clear e0
      go_wp2_with fail
      try rw [Exit.noGoto_ret]
      go_ret
      exact ⟨ret_int HE.out.symm, H.out.2.1⟩
    | succ m =>
      have hlx : m < X.length := by rw [HLn.out]; omega
      obtain ⟨b, off, rfl, hb, c1⟩ := HS.out.at_ m hlx
      have d1 := (H.out.2.1.cell (p := ⟨b, off + m, none⟩) hb).trans c1
      have HE : Hid (jnF (X.take i).reverse = if jnP X[m] = 4 then jnF (X.take m).reverse else jnP X[m]) := by
        show _ = _
        rw [H.out.1, take_rev X m hlx]; rfl
      have HR := hr (row_any X[m] wr)
      generalize X[m] = x at *
      clear c1
      have z1 : (m : Int) < (len : Int) := by omega
      have z2 : ¬ (m : Int) < 0 := by omega
      have z3 : ¬ (len : Int) ≤ (m : Int) := by omega
      have z4 : ((m + 1 : Nat) : Int) - 1 = (m : Int) := by omega
      have z5 : IntKind.i64.wrap (((m + 1 : Nat) : Int) - 1) = (m : Int) := by rw [IntKind.wrap_i64]; omega
      generalize hI : ((m + 1 : Nat) : Int) = I at *
      clear hI
      go_wp2_with fail
      refine HR.out.mono ?_
      rintro e w1 ⟨x1, x2, x3, x4, rfl, hb1⟩
      have hx := (idx7 x1 x2 x3 x4 (scP x) (clsP x) (jnP x) w1).2.2
      have H1 := hr (H.out.2.step hb1)
      clear hb1 HR
      generalize jnP x = jj at *
      by_cases hj : jj = 4
      · rw [if_pos hj] at HE
        subst hj
        go_wp2_with fail
        go_roundg m
        case measure => rw [HG.out]; omega
        case rel => exact ⟨m, by go_num, by omega, rfl, HE.out, H1.out⟩
      · rw [if_neg hj] at HE
        have hj2 : (jj == 4) = false := beq_eq_false_iff_ne.2 hj
        have hj3 : (jj != 4) = true := bne_iff_ne.2 hj
        go_wp2_with fail
        try rw [Exit.noGoto_ret]
        go_ret
        exact ⟨ret_int HE.out.symm, H1.out.1⟩
def wnB (lo hg x : Int) : Bool := decide (lo ≤ x ∧ x ≤ hg)
set_option maxRecDepth 100000 in
set_option maxHeartbeats 2000000 in
theorem rwithin_any {w : World} {v : Value} {X : List Int} (h : Sl .i64 w v X) (hn : X.length ≤ 1000000) (lo hg : Int) :
    Calls Try.prog 47 #[v, .int .i64 lo, .int .i64 hg] w fun e w' => e = .returned (.bool (X.any (wnB lo hg))) ∧ w' = w := by
  obtain ⟨ao, cap, rfl, h⟩ := h
  have HS := hr h
  clear h
  generalize hlen : X.length = len at *
  have HLn := hr hlen
  clear hlen
  go_enter Try.func47, Try.ntmps47
  go_wp2_with fail
  go_loop [7] (fun vi => ∃ k : Nat, k ≤ len ∧ vi = .int .i64 k ∧ Hid (∀ j (hj : j < X.length), j < k → ¬ (lo ≤ X[j] ∧ X[j] ≤ hg))) (fun vi => len - (intOf vi).toNat)
  case atStart => exact ⟨0, Nat.zero_le _, rfl, fun j _ h => by omega⟩
  case round =>
    obtain ⟨k, hk, rfl, H⟩ := hrel
    by_cases hlt : k < len
    · have hlx : k < X.length := by rw [HLn.out]; exact hlt
      obtain ⟨b, off, rfl, hb, c1⟩ := HS.out.at_ k hlx
      have z1 : (k : Int) < (len : Int) := by omega
      by_cases h1 : lo ≤ X[k]
      · by_cases h2 : X[k] ≤ hg
        · have HE : Hid ((X.any (wnB lo hg)) = true) := List.any_eq_true.2 ⟨X[k], List.getElem_mem hlx, decide_eq_true ⟨h1, h2⟩⟩
          generalize X[k] = y at *
          go_wp2_with fail
          try rw [Exit.noGoto_ret]
          go_ret
          exact ⟨ret_bool HE.out.symm, rfl⟩
        · have HN : Hid (∀ j (hj : j < X.length), j < k + 1 → ¬ (lo ≤ X[j] ∧ X[j] ≤ hg)) := fun j hj h => by
            by_cases e : j = k
            · subst e; exact fun h => h2 h.2
            · exact H.out j hj (by omega)
          generalize X[k] = y at *
          go_wp2_with fail
          go_round
          case rel => exact ⟨k + 1, hlt, by go_num, HN⟩
          case measure => (simp [intOf]) <;> omega
      · have HN : Hid (∀ j (hj : j < X.length), j < k + 1 → ¬ (lo ≤ X[j] ∧ X[j] ≤ hg)) := fun j hj h => by
          by_cases e : j = k
          · subst e; exact fun h => h1 h.1
          · exact H.out j hj (by omega)
        generalize X[k] = y at *
        go_wp2_with fail
        go_round
        case rel => exact ⟨k + 1, hlt, by go_num, HN⟩
        case measure => (simp [intOf]) <;> omega
    · have z1 : ¬ (k : Int) < (len : Int) := by omega
      have HE : Hid ((X.any (wnB lo hg)) = false) := by
        show _ = _
        rw [List.any_eq_false]
        intro x hx
        obtain ⟨j, hj, rfl⟩ := List.mem_iff_getElem.1 hx
        have := H.out j hj (by have := HLn.out; omega)
        unfold wnB
        rw [decide_eq_true_eq]; exact this
      go_wp2_with fail
      go_ret
      exact ⟨ret_bool HE.out.symm, rfl⟩
theorem sc_ck : Uc.bookL.all (fun x => decide (x.v.c ≤ 10)) = true := by kernel_rfl
theorem sc_le (r : Int) : scP r ≤ 10 := by
  have h := Uc.get_or (fun x => decide (x.c ≤ 10)) Uc.bookL Uc.zTr r (by decide) sc_ck
  exact of_decide_eq_true h
theorem sc_kana (r : Int) : decide (scP r ∈ [8, 9, 10]) = decide (8 ≤ scP r) := by
  have := sc_le r
  apply decide_eq_decide.2
  simp
  omega
end Ru
end Go.Proofs.Ytbamhbfncddieaa
